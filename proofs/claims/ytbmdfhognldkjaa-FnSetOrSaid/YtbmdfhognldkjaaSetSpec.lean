/- spec.l3And: what of the first is in the second, or is not; spec.SetAnd, spec.SetLess. -/
import Derived.Test.YtbmdfhognldkjaaSetHas
namespace Go.Proofs.Ytbmdfhognldkjaa
open Go.RowKit

def andTo (zs ys : List Int) (both : Bool) (k : Nat) : List Int := (zs.take k).filter (fun z => hasB ys z == both)
theorem andTo_yes (zs ys : List Int) (both : Bool) (k : Nat) (h : k < zs.length) (hd : (hasB ys (nth zs k) == both) = true) : andTo zs ys both (k + 1) = andTo zs ys both k ++ [nth zs k] := by
  have e : nth zs k = zs[k] := by unfold nth; rw [List.getD_eq_getElem?_getD, List.getElem?_eq_getElem h]; rfl
  rw [e] at hd ⊢
  unfold andTo
  rw [List.take_succ_eq_append_getElem h, List.filter_append]
  simp [hd]
theorem andTo_no (zs ys : List Int) (both : Bool) (k : Nat) (h : k < zs.length) (hd : (hasB ys (nth zs k) == both) = false) : andTo zs ys both (k + 1) = andTo zs ys both k := by
  have e : nth zs k = zs[k] := by unfold nth; rw [List.getD_eq_getElem?_getD, List.getElem?_eq_getElem h]; rfl
  rw [e] at hd
  unfold andTo
  rw [List.take_succ_eq_append_getElem h, List.filter_append]
  simp [hd]
theorem andTo_len (zs ys : List Int) (both : Bool) (k : Nat) : (andTo zs ys both k).length ≤ zs.length := by
  unfold andTo
  refine Nat.le_trans (List.length_filter_le _ _) ?_
  simp
  omega
theorem int_one (z : Int) : ∀ u ∈ [Value.int .i64 z], u.oneCell' = true := by
  intro u hu
  simp at hu
  subst hu
  rfl

set_option maxHeartbeats 1000000 in
theorem l3And_any (a b : Option Addr) (capa capb : Nat) (zs ys : List Int) (both : Bool) (w : World) (hz : zs.length ≤ 2097152) (hy : ys.length ≤ 2097152) (hr : IntRow w a zs) (hs : IntRow w b ys) :
    Calls Try.prog 39 #[.slice a zs.length capa, .slice b ys.length capb, .bool both] w fun e w' => ∃ v, e = .returned v ∧ w'.ownsRow w.heap.size 3 1 v (andTo zs ys both zs.length).length ((andTo zs ys both zs.length).map (Value.int .i64)) ∧ Below w.heap.size w w' := by
  obtain ⟨i0, hi, hz0, hz1, hz2⟩ := info_parts infoInt
  have hlit : (w.alloc (.cells #[] 3)).ownsRow w.heap.size 3 1 (.slice (some ⟨w.heap.size, 0, none⟩) 0 0) 0 [] := World.ownsRow_lit w #[] 0 (Nat.le_refl _) (by decide) rfl
  have hb0 : Below w.heap.size w (w.alloc (.cells #[] 3)) := (Below.refl _ w).alloc (Nat.le_refl _) _
  go_enter Try.func39, Try.ntmps39
  go_wp2
  go_loopw [7, 8] (fun v i wr => ∃ k : Nat, k ≤ zs.length ∧ i = .int .i64 k ∧ wr.ownsRow w.heap.size 3 1 v (andTo zs ys both k).length ((andTo zs ys both k).map (Value.int .i64)) ∧ Below w.heap.size w wr) (fun _ i _ => zs.length - (intOf i).toNat)
  case atStart => exact ⟨0, Nat.zero_le _, rfl, hlit, hb0⟩
  case round =>
    obtain ⟨k, hk, rfl, hown, hbel⟩ := hrel
    clear hlit hb0
    have hsz := hbel.size
    by_cases hlt : k < zs.length
    · obtain ⟨g, off, rfl, hg, hc⟩ := (hr.below hbel) (by omega)
      have c1 := hc k hlt
      have s1 := hs.below hbel
      have hnl := andTo_len zs ys both k
      cases hd : (hasB ys (nth zs k) == both) with
      | true =>
        have HS : Hid (andTo zs ys both (k + 1) = andTo zs ys both k ++ [nth zs k]) := andTo_yes zs ys both k hlt hd
        generalize nth zs k = z at *
        clear hr hc hs
        go_wp2_with fail
        refine (l3Has_any b capb ys z _ (by omega) s1).mono ?_
        rintro e w1 ⟨rfl, rfl⟩
        generalize hasB ys z = q at *
        clear s1
        go_wp2_with (at_builtin; refine wpList_append_own _ rfl _ _ 23 rfl w.heap.size 3 i0 (.int .i64 0) 1 8 Try.underlying23 hi hz0 hz1 hz2 rfl (by decide) _ _ _ rfl (hown.alloc _) ⟨w1.heap.size, 0, none⟩ 1 1 [.int .i64 z] rfl rfl (cells_new _ _ _) (int_one _) (by unfold maxLen; omega) (by omega) (by simp; omega) ?_)
        intro v' w3 hown' hgrow _
        have hb3 : Below w.heap.size w w3 := (hbel.alloc (by omega) _).grown hgrow (by simp; omega) (fun j hj => (hown.lt j hj).1)
        have ho3 : w3.ownsRow w.heap.size 3 1 v' (andTo zs ys both (k + 1)).length ((andTo zs ys both (k + 1)).map (Value.int .i64)) := by
          rw [HS.out, List.length_append, List.map_append]
          exact hown'
        clear hown' hgrow hown
        go_wp2
        go_roundw
        case rel => exact ⟨k + 1, by omega, by go_num, ho3, hb3⟩
        case measure => simp [intOf]; omega
      | false =>
        have HS : Hid (andTo zs ys both (k + 1) = andTo zs ys both k) := andTo_no zs ys both k hlt hd
        generalize nth zs k = z at *
        clear hr hc hs
        go_wp2_with fail
        refine (l3Has_any b capb ys z _ (by omega) s1).mono ?_
        rintro e w1 ⟨rfl, rfl⟩
        generalize hasB ys z = q at *
        clear s1
        go_wp2
        go_roundw
        case rel => exact ⟨k + 1, by omega, by go_num, by rw [HS.out]; exact hown, hbel⟩
        case measure => simp [intOf]; omega
    · have hkl : k = zs.length := by omega
      subst hkl
      clear hr hs
      go_wp2
      go_ret
      exact ⟨_, rfl, hown, hbel⟩

/-- What the model answers. -/
def andB (zs ys : List Int) (both : Bool) : List Int := if setB zs && setB ys then andTo zs ys both zs.length else []
theorem andB_len (zs ys : List Int) (both : Bool) : (andB zs ys both).length ≤ zs.length := by
  unfold andB
  split
  · exact andTo_len _ _ _ _
  · exact Nat.zero_le _
end Go.Proofs.Ytbmdfhognldkjaa
