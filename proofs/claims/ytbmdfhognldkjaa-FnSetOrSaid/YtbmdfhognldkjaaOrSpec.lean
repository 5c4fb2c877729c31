/- spec.l3Or: what one of two lists has. -/
import Derived.Test.YtbmdfhognldkjaaOrPlain
import Derived.Test.YtbmdfhognldkjaaSetSpec
import Derived.Laws.AppendOwnNone
namespace Go.Proofs.Ytbmdfhognldkjaa
open Go.RowKit

theorem owns_intRowC {w : World} {base : Nat} {e : TypeId} {v : Value} {zs : List Int} (h : w.ownsRow base e 1 v zs.length (zs.map (Value.int .i64))) :
    ∃ a cap, v = .slice a zs.length cap ∧ zs.length ≤ cap ∧ (a = none → cap = 0) ∧ IntRow w a zs := by
  rcases h.2 with ⟨rfl, h0⟩ | ⟨g, cap, cur, rfl, hb, hg, hc, _⟩
  · exact ⟨none, 0, by rw [h0], by omega, fun _ => rfl, fun hp => by omega⟩
  · obtain ⟨a', c', e', hr⟩ := owns_intRow h
    cases e'
    exact ⟨_, _, rfl, hc, (fun h => by cases h), hr⟩
theorem row_cap {w : World} {base : Nat} {e : TypeId} {a : Option Addr} {n cap m : Nat} {xs : List Value} (h : w.ownsRow base e 1 (.slice a n cap) m xs) : n ≤ cap ∧ (a = none → cap = 0) := by
  rcases h.2 with ⟨e', h0⟩ | ⟨g, cap', cur, e', hb, hg, hc, _⟩
  · cases e'
    exact ⟨Nat.le_refl _, fun _ => rfl⟩
  · cases e'
    exact ⟨hc, fun h => by cases h⟩
theorem ints_one (zs : List Int) : ∀ u ∈ zs.map (Value.int .i64), u.oneCell' = true := by
  intro u hu
  obtain ⟨z, _, rfl⟩ := List.mem_map.1 hu
  rfl

theorem ownsRow_drewN {w : World} {base : Nat} {e : TypeId} {size : Nat} {v : Value} {n : Nat} {xs : List Value} (h : w.ownsRow base e size v n xs) (k : Nat) : (w.drewN k).ownsRow base e size v n xs := h
theorem snoc_row {w : World} {base : Nat} {v : Value} {vs : List Int} {z : Int} (h : w.ownsRow base 3 1 v (vs.length + 1) (vs.map (Value.int .i64) ++ [.int .i64 z])) : w.ownsRow base 3 1 v (vs ++ [z]).length ((vs ++ [z]).map (Value.int .i64)) := by
  rw [List.length_append, List.map_append]
  exact h

set_option maxHeartbeats 2000000 in
theorem l3Or_any (a b : Option Addr) (capa capb : Nat) (zs ys : List Int) (w : World) (hz : zs.length ≤ 1048576) (hy : ys.length ≤ 1048576) (hcb : ys.length ≤ capb) (hbn : b = none → capb = 0) (hr : IntRow w a zs) (hs : IntRow w b ys) :
    Calls Try.prog 44 #[.slice a zs.length capa, .slice b ys.length capb] w fun e w' => ∃ v, e = .returned v ∧ w'.ownsRow w.heap.size 3 1 v (mgl zs ys).length ((mgl zs ys).map (Value.int .i64)) ∧ Below w.heap.size w w' := by
  obtain ⟨i0, hi, hz0, hz1, hz2⟩ := info_parts infoInt
  have hlit : (w.alloc (.cells #[] 3)).ownsRow w.heap.size 3 1 (.slice (some ⟨w.heap.size, 0, none⟩) 0 0) 0 [] := World.ownsRow_lit w #[] 0 (Nat.le_refl _) (by decide) rfl
  have hb0 : Below w.heap.size w (w.alloc (.cells #[] 3)) := (Below.refl _ w).alloc (Nat.le_refl _) _
  go_enter Try.func44, Try.ntmps44
  go_wp2
  go_loopw [5, 6, 7] (fun v kk i wr => ∃ (vs : List Int) (m n : Nat), m ≤ zs.length ∧ n ≤ ys.length ∧ i = .int .i64 m ∧ kk = .int .i64 n ∧ OrAt zs ys vs m n ∧ wr.ownsRow w.heap.size 3 1 v vs.length (vs.map (Value.int .i64)) ∧ Below w.heap.size w wr) (fun _ _ i _ => zs.length - (intOf i).toNat)
  case atStart => exact ⟨[], 0, 0, Nat.zero_le _, Nat.zero_le _, rfl, rfl, OrAt.start zs ys, hlit, hb0⟩
  case round =>
    obtain ⟨vs, m, n, hm, hn, rfl, rfl, hor, hown, hbel⟩ := hrel
    clear hlit hb0
    by_cases hlt : m < zs.length
    · have hms : ((m : Int) < (zs.length : Int)) := by omega
      have HOR : Hid (OrAt zs ys vs m n) := hor
      clear hor
      go_wp2
      go_loopw [5, 6] (fun v kk wr => ∃ (vs : List Int) (n : Nat), n ≤ ys.length ∧ kk = .int .i64 n ∧ OrAt zs ys vs m n ∧ wr.ownsRow w.heap.size 3 1 v vs.length (vs.map (Value.int .i64)) ∧ Below w.heap.size w wr) (fun _ kk _ => ys.length - (intOf kk).toNat)
      case atStart => exact ⟨vs, n, hn, rfl, HOR.out, hown, hbel⟩
      case round =>
        clear HOR hown hbel hn
        obtain ⟨us, k, hk, rfl, hor, hown, hbel⟩ := hrel
        have HOR : Hid (OrAt zs ys us m k) := hor
        clear hor
        have hnl := HOR.out.len
        have hsz := hbel.size
        obtain ⟨g, off, rfl, hg, hc⟩ := (hr.below hbel) (by omega)
        have c1 := hc m hlt
        by_cases hkl : k < ys.length
        · obtain ⟨g2, off2, rfl, hg2, hc2⟩ := (hs.below hbel) (by omega)
          have c2 := hc2 k hkl
          have hki : (k : Int) < (ys.length : Int) := by omega
          rcases Int.lt_trichotomy (nth ys k) (nth zs m) with h | h | h
          · have HS : Hid (OrAt zs ys (us ++ [nth ys k]) m (k + 1)) := HOR.out.lower hlt hkl h
            generalize nth ys k = y at *
            generalize nth zs m = z at *
            clear hr hs hc hc2 HOR
            go_wp2
            go_quiet (fail)
            go_wp2_with (at_builtin; refine wpList_append_own _ rfl _ _ 23 rfl w.heap.size 3 i0 (.int .i64 0) 1 8 Try.underlying23 hi hz0 hz1 hz2 rfl (by decide) _ _ _ rfl ((ownsRow_drewN hown _).alloc _) ⟨wr.heap.size, 0, none⟩ 1 1 [.int .i64 y] rfl rfl (cells_new _ _ _) (int_one _) (by unfold maxLen; omega) (by omega) (by simp; omega) ?_)
            intro v' w3 hown' hgrow _
            have hb3 : Below w.heap.size w w3 := ((below_drewN hbel _).alloc (by simp; omega) _).grown hgrow (by simp; omega) (fun j hj => (hown.lt j hj).1)
            have ho3 := snoc_row hown'
            clear hown' hgrow hown
            go_wp2
            go_roundw
            case rel => exact ⟨us ++ [y], k + 1, by omega, by go_num, HS.out, ho3, hb3⟩
            case measure => simp [intOf]; omega
          · have HS : Hid (OrAt zs ys (us ++ [nth zs m]) (m + 1) (k + 1)) := HOR.out.same hlt hkl h
            have d1 : decide (nth ys k < nth zs m) = false := by simp; omega
            have d2 : (nth ys k == nth zs m) = true := by simpa using h
            clear h
            generalize nth ys k = y at *
            generalize nth zs m = z at *
            clear hr hs hc hc2 HOR
            go_wp2
            go_quiet (fail)
            go_wp2
            go_quiet (fail)
            go_wp2_with (at_builtin; refine wpList_append_own _ rfl _ _ 23 rfl w.heap.size 3 i0 (.int .i64 0) 1 8 Try.underlying23 hi hz0 hz1 hz2 rfl (by decide) _ _ _ rfl ((ownsRow_drewN hown _).alloc _) ⟨wr.heap.size, 0, none⟩ 1 1 [.int .i64 z] rfl rfl (cells_new _ _ _) (int_one _) (by unfold maxLen; omega) (by omega) (by simp; omega) ?_)
            intro v' w3 hown' hgrow _
            have hb3 : Below w.heap.size w w3 := ((below_drewN hbel _).alloc (by simp; omega) _).grown hgrow (by simp; omega) (fun j hj => (hown.lt j hj).1)
            have ho3 := snoc_row hown'
            clear hown' hgrow hown
            go_wp2
            go_roundw
            case rel => exact ⟨us ++ [z], m + 1, k + 1, by omega, by omega, by go_num, by go_num, HS.out, ho3, hb3⟩
            case measure => simp [intOf]; omega
          · have HS : Hid (OrAt zs ys (us ++ [nth zs m]) (m + 1) k) := HOR.out.upper hlt (fun _ => h)
            have d1 : decide (nth ys k < nth zs m) = false := by simp; omega
            have d2 : (nth ys k == nth zs m) = false := by simp; omega
            generalize nth ys k = y at *
            generalize nth zs m = z at *
            clear hr hs hc hc2 HOR
            go_wp2
            go_quiet (fail)
            go_wp2
            go_quiet (fail)
            go_wp2_with (at_builtin; refine wpList_append_own _ rfl _ _ 23 rfl w.heap.size 3 i0 (.int .i64 0) 1 8 Try.underlying23 hi hz0 hz1 hz2 rfl (by decide) _ _ _ rfl ((ownsRow_drewN hown _).alloc _) ⟨wr.heap.size, 0, none⟩ 1 1 [.int .i64 z] rfl rfl (cells_new _ _ _) (int_one _) (by unfold maxLen; omega) (by omega) (by simp; omega) ?_)
            intro v' w3 hown' hgrow _
            have hb3 : Below w.heap.size w w3 := ((below_drewN hbel _).alloc (by simp; omega) _).grown hgrow (by simp; omega) (fun j hj => (hown.lt j hj).1)
            have ho3 := snoc_row hown'
            clear hown' hgrow hown
            go_wp2
            go_roundw
            case rel => exact ⟨us ++ [z], m + 1, k, by omega, by omega, by go_num, rfl, HS.out, ho3, hb3⟩
            case measure => simp [intOf]; omega
        · have HS : Hid (OrAt zs ys (us ++ [nth zs m]) (m + 1) k) := HOR.out.upper hlt (fun h => absurd h hkl)
          have d1 : decide ((k : Int) < (ys.length : Int)) = false := by simp; omega
          generalize nth zs m = z at *
          clear hr hs hc HOR
          go_wp2
          go_quiet (fail)
          go_wp2
          go_quiet (fail)
          go_wp2_with (at_builtin; refine wpList_append_own _ rfl _ _ 23 rfl w.heap.size 3 i0 (.int .i64 0) 1 8 Try.underlying23 hi hz0 hz1 hz2 rfl (by decide) _ _ _ rfl ((ownsRow_drewN hown _).alloc _) ⟨wr.heap.size, 0, none⟩ 1 1 [.int .i64 z] rfl rfl (cells_new _ _ _) (int_one _) (by unfold maxLen; omega) (by omega) (by simp; omega) ?_)
          intro v' w3 hown' hgrow _
          have hb3 : Below w.heap.size w w3 := ((below_drewN hbel _).alloc (by simp; omega) _).grown hgrow (by simp; omega) (fun j hj => (hown.lt j hj).1)
          have ho3 := snoc_row hown'
          clear hown' hgrow hown
          go_wp2
          go_roundw
          case rel => exact ⟨us ++ [z], m + 1, k, by omega, by omega, by go_num, rfl, HS.out, ho3, hb3⟩
          case measure => simp [intOf]; omega
    · have HD : Hid (vs ++ ys.drop n = mgl zs ys) := hor.done hlt
      clear hor
      have hms : decide ((m : Int) < (zs.length : Int)) = false := by simp; omega
      have hvl : vs.length ≤ zs.length + ys.length := by
        have h1 := congrArg List.length HD.out
        have h2 := mgl_len zs ys
        rw [List.length_append] at h1
        omega
      have hni : (n : Int) ≤ (ys.length : Int) := by omega
      have hsz := hbel.size
      have s1 := hs.below hbel
      clear hr hs
      rcases b with _ | ad
      · have hy0 : ys = [] := by
          rcases Nat.eq_zero_or_pos ys.length with h | h
          · exact List.eq_nil_of_length_eq_zero h
          · obtain ⟨_, _, e, _⟩ := s1 h
            cases e
        subst hy0
        obtain rfl : n = 0 := by simp at hn; exact hn
        obtain rfl : capb = 0 := hbn rfl
        clear s1
        rw [List.drop_nil, List.append_nil] at HD
        go_wp2_with (at_builtin; refine wpList_append_own_none rfl _ _ 23 rfl w.heap.size 3 i0 1 Try.underlying23 hi _ _ _ rfl hown rfl ?_)
        go_ret
        exact ⟨_, rfl, by rw [← HD.out]; exact hown, hbel⟩
      · have hnews : ∀ j u, ((ys.drop n).map (Value.int .i64))[j]? = some u → wr.cell? ((ad.add n).add j) = some u := by
          intro j u hj
          have hjl : n + j < ys.length := by
            have := (List.getElem?_eq_some_iff.1 hj).1
            simp at this
            omega
          obtain ⟨g, off, e, _, hc⟩ := s1 (by omega)
          cases e
          rw [addr_add, addr_add, Nat.add_assoc, hc (n + j) hjl, nth_get _ _ hjl, ← hj]
          simp [hjl]
        have HN : Hid (∀ j u, ((ys.drop n).map (Value.int .i64))[j]? = some u → wr.cell? ((ad.add n).add j) = some u) := hnews
        clear hnews s1
        by_cases hce : capb = n
        · obtain rfl : n = ys.length := by omega
          subst hce
          rw [List.drop_length, List.append_nil] at HD
          clear HN
          go_wp2_with (at_builtin; refine wpList_append_own _ rfl _ _ 23 rfl w.heap.size 3 i0 (.int .i64 0) 1 8 Try.underlying23 hi hz0 hz1 hz2 rfl (by decide) _ _ _ rfl hown ad 0 0 [] rfl rfl (by simp) (by simp) (by unfold maxLen; omega) (by omega) (by omega) ?_)
          intro v' w3 hown' hgrow _
          have hb3 : Below w.heap.size w w3 := hbel.grown hgrow (by omega) (fun j hj => (hown.lt j hj).1)
          have ho3 : w3.ownsRow w.heap.size 3 1 v' (mgl zs ys).length ((mgl zs ys).map (Value.int .i64)) := by
            rw [← HD.out]
            simpa using hown'
          clear hown' hgrow hown
          go_wp2
          go_ret
          exact ⟨_, rfl, ho3, hb3⟩
        · go_wp2_with (at_builtin; refine wpList_append_own _ rfl _ _ 23 rfl w.heap.size 3 i0 (.int .i64 0) 1 8 Try.underlying23 hi hz0 hz1 hz2 rfl (by decide) _ _ _ rfl hown (ad.add n) (ys.length - n) (capb - n) ((ys.drop n).map (Value.int .i64)) rfl (by simp) HN.out (ints_one _) (by unfold maxLen; omega) (by omega) (by omega) ?_)
          intro v' w3 hown' hgrow _
          have hb3 : Below w.heap.size w w3 := hbel.grown hgrow (by omega) (fun j hj => (hown.lt j hj).1)
          have ho3 : w3.ownsRow w.heap.size 3 1 v' (mgl zs ys).length ((mgl zs ys).map (Value.int .i64)) := by
            rw [← HD.out, List.length_append, List.map_append, List.length_drop, List.map_drop]
            exact hown'
          clear hown' hgrow hown
          go_wp2
          go_ret
          exact ⟨_, rfl, ho3, hb3⟩
end Go.Proofs.Ytbmdfhognldkjaa
