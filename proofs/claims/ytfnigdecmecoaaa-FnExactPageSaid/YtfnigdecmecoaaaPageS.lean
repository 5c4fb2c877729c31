/- spec.Page. -/
import Derived.Test.YtfnigdecmecoaaaPage
namespace Go.Proofs.Ytfnigdecmecoaaa
open Go.RowKit
set_option linter.unusedVariables false

/-- Where a slice lies. -/
def LiesAt (w : World) (a : Option Addr) (cap n : Nat) : Prop := (a = none ∧ cap = 0 ∧ n = 0) ∨ ∃ g off, a = some ⟨g, off, none⟩ ∧ g < w.heap.size ∧ n ≤ cap
theorem LiesAt.below {w w' : World} {a : Option Addr} {cap n : Nat} (h : LiesAt w a cap n) (hb : Below w.heap.size w w') : LiesAt w' a cap n := by
  rcases h with h | ⟨g, off, e, hg, hn⟩
  · exact .inl h
  · exact .inr ⟨g, off, e, by have := hb.size; omega, hn⟩

theorem drop_min (fs : List Ht) (k : Nat) : fs.drop (min k fs.length) = fs.drop k := by
  by_cases h : k ≤ fs.length
  · rw [Nat.min_eq_left h]
  · rw [Nat.min_eq_right (by omega), List.drop_of_length_le (Nat.le_refl _), List.drop_of_length_le (by omega)]

def HitsAns (w w' : World) (L : List Ht) (e : Ending) : Prop := ∃ p c, e = .returned (.slice p L.length c) ∧ HtRow w' p L ∧ Below w.heap.size w w'
theorem hitsAns_nil {w w' : World} {p : Option Addr} {c : Nat} (hb : Below w.heap.size w w') : HitsAns w w' [] (.returned (.slice p 0 c)) := ⟨p, c, rfl, fun hp => by simp at hp, hb⟩
theorem hitsAns_some {w w' : World} {L : List Ht} {p : Option Addr} {n c : Nat} (hn : L.length = n) (hr : HtRow w' p L) (hb : Below w.heap.size w w') : HitsAns w w' L (.returned (.slice p n c)) := by
  subst hn
  exact ⟨p, c, rfl, hr, hb⟩

set_option maxRecDepth 100000 in
set_option maxHeartbeats 4000000 in
theorem pageS_any (a : Option Addr) (cap : Nat) (fs : List Ht) (skip many : Int) (w : World) (hz : fs.length ≤ 1048576) (hA : LiesAt w a cap fs.length) (hr : HtRow w a fs) :
    Calls Try.prog 9 #[.slice a fs.length cap, .int .i64 skip, .int .i64 many] w fun e w' => HitsAns w w' (pageL fs skip many) e := by
  cases h1 : inB skip 0 1000 with
  | false =>
    rw [pageL_no1 h1]
    clear hr hA
    go_enter Try.func9, Try.ntmps9
    go_wp2_with fail
    refine (l1In_any skip 0 1000 _).mono ?_
    rintro e w1 ⟨rfl, rfl⟩
    rw [h1]
    go_wp2
    go_ret
    exact hitsAns_nil ((Below.refl _ _).alloc (Nat.le_refl _) _)
  | true =>
    cases h2 : inB many 0 1000 with
    | false =>
      rw [pageL_no2 h2]
      clear hr hA
      go_enter Try.func9, Try.ntmps9
      go_wp2_with fail
      refine (l1In_any skip 0 1000 _).mono ?_
      rintro e w1 ⟨rfl, rfl⟩
      rw [h1]
      go_wp2_with fail
      refine (l1In_any many 0 1000 _).mono ?_
      rintro e w1 ⟨rfl, rfl⟩
      rw [h2]
      go_wp2
      go_ret
      exact hitsAns_nil ((Below.refl _ _).alloc (Nat.le_refl _) _)
    | true =>
      obtain ⟨ks, rfl, hks⟩ := inB_nat h1
      obtain ⟨km, rfl, hkm⟩ := inB_nat h2
      rw [pageL_yes h1 h2]
      obtain ⟨i0, hi, hz0, hz1, hz2⟩ := info_parts infoHt
      rcases hA with ⟨rfl, rfl, h0⟩ | ⟨g, off, rfl, hg, hcap⟩
      · have hfs : fs = [] := List.eq_nil_of_length_eq_zero h0
        subst hfs
        have HE : Hid ((([] : List Ht).drop ks).take km = []) := by unfold Hid; simp
        rw [HE.out]
        have hlit : (w.alloc (.cells #[] 51)).ownsRow w.heap.size 51 3 (.slice (some ⟨w.heap.size, 0, none⟩) 0 0) 0 [] := World.ownsRow_lit w #[] 0 (Nat.le_refl _) (by decide) rfl
        have HLIT : Hid ((w.alloc (.cells #[] 51)).ownsRow w.heap.size 51 3 (.slice (some ⟨w.heap.size, 0, none⟩) 0 0) 0 []) := hlit
        clear hr hlit h0
        go_enter Try.func9, Try.ntmps9
        go_wp2_with fail
        refine (l1In_any ks 0 1000 _).mono ?_
        rintro e w1 ⟨rfl, rfl⟩
        rw [h1]
        go_wp2_with fail
        refine (l1In_any km 0 1000 _).mono ?_
        rintro e w1 ⟨rfl, rfl⟩
        rw [h2]
        clear h1 h2
        by_cases hk0 : ks = 0
        · subst hk0
          go_wp2_with (at_builtin; refine wpList_append_own_none rfl _ _ 23 rfl w1.heap.size 51 i0 3 Try.underlying23 hi _ _ _ rfl HLIT.out rfl ?_)
          go_wp2
          go_ret
          exact hitsAns_nil ((Below.refl _ _).alloc (Nat.le_refl _) _)
        · have hk1 : (0 : Int) < (ks : Int) := by omega
          go_wp2_with (at_builtin; refine wpList_append_own_none rfl _ _ 23 rfl w1.heap.size 51 i0 3 Try.underlying23 hi _ _ _ rfl HLIT.out rfl ?_)
          go_wp2
          go_ret
          exact hitsAns_nil ((Below.refl _ _).alloc (Nat.le_refl _) _)
      · have hlit : (w.alloc (.cells #[] 51)).ownsRow w.heap.size 51 3 (.slice (some ⟨w.heap.size, 0, none⟩) 0 0) 0 [] := World.ownsRow_lit w #[] 0 (Nat.le_refl _) (by decide) rfl
        have HLIT : Hid ((w.alloc (.cells #[] 51)).ownsRow w.heap.size 51 3 (.slice (some ⟨w.heap.size, 0, none⟩) 0 0) 0 []) := hlit
        have hb0 : Below w.heap.size w (w.alloc (.cells #[] 51)) := (Below.refl _ w).alloc (Nat.le_refl _) _
        obtain ⟨s, hs⟩ : ∃ s, s = min ks fs.length := ⟨_, rfl⟩
        have hD : (fs.drop ks) = fs.drop s := by rw [hs, drop_min]
        rw [hD]
        have hDl : (fs.drop s).length = fs.length - s := List.length_drop
        have HCELL : Hid (∀ j u, (htCells (fs.drop s))[j]? = some u → (w.alloc (.cells #[] 51)).cell? ((⟨g, off + s * 3, none⟩ : Addr).add j) = some u) := row_cells ((hr.drop (cap := cap) s).below hb0)
        have HCL : Hid ((htCells (fs.drop s)).length = (fs.length - s) * 3) := by unfold Hid; rw [htCells_len, hDl]
        generalize fs.drop s = D at *
        clear hr hlit hD
        by_cases hgt : fs.length < ks
        · have hgt' : (fs.length : Int) < (ks : Int) := by omega
          have hsl : s = fs.length := by omega
          subst hsl
          clear hs
          have hD0 : D = [] := List.eq_nil_of_length_eq_zero (by omega)
          subst hD0
          rw [List.take_nil]
          go_enter Try.func9, Try.ntmps9
          go_wp2_with fail
          refine (l1In_any ks 0 1000 _).mono ?_
          rintro e w1 ⟨rfl, rfl⟩
          rw [h1]
          go_wp2_with fail
          refine (l1In_any km 0 1000 _).mono ?_
          rintro e w1 ⟨rfl, rfl⟩
          rw [h2]
          clear HCELL HCL HLIT h1 h2
          go_wp2
          all_goals
            go_ret
            exact hitsAns_nil hb0
        · have hgt' : ¬ (fs.length : Int) < (ks : Int) := by omega
          have hsl : s = ks := by omega
          subst hsl
          clear hs
          by_cases hcs : cap = s
          · have hfl : fs.length = s := by omega
            have hD0 : D = [] := List.eq_nil_of_length_eq_zero (by omega)
            subst hD0
            rw [List.take_nil]
            go_enter Try.func9, Try.ntmps9
            go_wp2_with fail
            refine (l1In_any s 0 1000 _).mono ?_
            rintro e w1 ⟨rfl, rfl⟩
            rw [h1]
            go_wp2_with fail
            refine (l1In_any km 0 1000 _).mono ?_
            rintro e w1 ⟨rfl, rfl⟩
            rw [h2]
            clear HCELL HCL HLIT h1 h2
            subst hcs
            clear hfl
            go_wp2
            all_goals
              go_ret
              exact hitsAns_nil hb0
          · have hkc : s < cap := by omega
            obtain ⟨L, hL⟩ : ∃ L, D.take km = L := ⟨_, rfl⟩
            have HLL : Hid (D.take km = L) := hL
            rw [hL]
            clear hL
            go_enter Try.func9, Try.ntmps9
            go_wp2_with fail
            refine (l1In_any s 0 1000 _).mono ?_
            rintro e w1 ⟨rfl, rfl⟩
            rw [h1]
            go_wp2_with fail
            refine (l1In_any km 0 1000 _).mono ?_
            rintro e w1 ⟨rfl, rfl⟩
            rw [h2]
            clear h1 h2
            go_wp2_with (at_builtin; refine wpList_append_own _ rfl _ _ 23 rfl w1.heap.size 51 i0 (.agg #[.int .i64 0, .string ⟨#[]⟩, .int .i64 0]) 3 32 Try.underlying23 hi hz0 hz1 hz2 rfl (by decide) _ _ _ rfl HLIT.out ⟨g, off + s * 3, none⟩ (fs.length - s) (cap - s) (htCells D) rfl HCL.out HCELL.out (hts_one _) (by unfold maxLen; omega) (by omega) (by simp) ?_)
            intro v' w3 hown' hgrow hnn
            have hb3 : Below w1.heap.size w1 w3 := hb0.grown hgrow (by simp) (fun j hj => by cases hj; exact Nat.le_refl _)
            have hown3 : w3.ownsRow w1.heap.size 51 3 v' D.length (htCells D) := by
              rw [hDl]
              simpa using hown'
            have hvn : v' ≠ .slice none 0 0 := fun e => by first | exact hnn e | (have := (hnn.1 e).1; cases this)
            obtain ⟨va, vc, rfl, hvc, hvz, hrow⟩ := owns_htRow hown3 (htTo_cells D)
            obtain ⟨x, rfl⟩ : ∃ x, va = some x := by
              cases va with
              | some x => exact ⟨x, rfl⟩
              | none =>
                rcases hown3.2 with ⟨h, _⟩ | ⟨g', c', cur, h, _⟩
                · exact absurd h hvn
                · cases h
            have HROW : Hid (HtRow w3 (some x) D) := hrow
            clear hown' hgrow hown3 hrow HCELL HCL HLIT hnn hvn hvz
            by_cases hlt : km < D.length
            · have hlt' : (km : Int) < (D.length : Int) := by omega
              have HL1 : Hid (L.length = km) := by unfold Hid; rw [← HLL.out, List.length_take]; omega
              rw [← hDl]
              go_wp2
              go_ret
              exact hitsAns_some HL1.out (by rw [← HLL.out]; exact HROW.out.take km) hb3
            · have hlt' : ¬ (km : Int) < (D.length : Int) := by omega
              have HL2 : Hid (L = D) := by unfold Hid; rw [← HLL.out, List.take_of_length_le (by omega)]
              rw [← hDl]
              go_wp2
              go_ret
              exact hitsAns_some (by rw [HL2.out]; omega) (by rw [HL2.out]; exact HROW.out) hb3
end Go.Proofs.Ytfnigdecmecoaaa
