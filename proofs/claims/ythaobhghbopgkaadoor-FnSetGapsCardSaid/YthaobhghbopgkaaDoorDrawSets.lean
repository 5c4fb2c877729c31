/- Contracts of the draws of numbers that may be no set, and of two of them. -/
import Derived.Test.YthaobhghbopgkaaDoorDrawSet
namespace Go.Proofs.YthaobhghbopgkaaDoor
open Go.RowKit

theorem one_any (R L m : Nat) (a : Option Addr) (len cap k : Nat) (w : World) (hR : Rd w R a len cap k) (hC : Code w R a len) (hk : k ≤ 1000000) (hS : ∀ i, i < m → ∃ z, w.cell? ⟨L, i, none⟩ = some (.int .i64 z)) (hm1 : 1 ≤ m) (hm2 : m ≤ 1000) (hL : L ≠ R) :
    Calls Tryd.prog 32 #[.pointer (some ⟨R, 0, none⟩), .slice (some ⟨L, 0, none⟩) m m] w fun e w' => ∃ z, e = .returned (.int .i64 z) ∧ Rd w' R a len cap ((k + 1 : Nat) : Int) ∧ w.grownBy w' (some R) := by
  go_enter Tryd.func32, Tryd.ntmps32
  go_wp2_with fail
  refine (pick_any R a len cap k _ _ hR hC hk (by omega) (by omega)).mono ?_
  rintro e w1 ⟨v, rfl, hv0, hv1, hR1, hg1⟩
  obtain ⟨j, rfl⟩ := Int.eq_ofNat_of_zero_le hv0
  have hj : j < m := by omega
  obtain ⟨t, hct⟩ := hS j hj
  have hcj : w1.cell? ⟨L, j, none⟩ = some (.int .i64 t) := hg1.cell hct (by simpa using hL)
  have HR1 : Hid (Rd w1 R a len cap ((k + 1 : Nat) : Int)) := hR1
  clear hR hC hS hR1 hct
  go_wp2
  go_ret
  exact ⟨t, rfl, HR1.out, hg1⟩

set_option maxHeartbeats 2000000 in
theorem anySet_any (R : Nat) (a : Option Addr) (len cap k : Nat) (w : World) (hR : Rd w R a len cap k) (hC : Code w R a len) (hk : k ≤ 700000) :
    Calls Tryd.prog 18 #[.pointer (some ⟨R, 0, none⟩)] w fun e w' => ∃ (v : Value) (zs : List Int) (p : Nat), e = .returned v ∧ zs.length ≤ 18 ∧ p ≤ k + 50 ∧ Drawn w w' R a len cap v zs p := by
  obtain ⟨i0, hi, hz0, hz1, hz2⟩ := info_parts infoInt
  have hlt := hR.lt
  have HC : Hid (Code w R a len) := hC
  clear hC
  go_enter Tryd.func18, Tryd.ntmps18
  go_wp2_with fail
  refine (set_any R a len cap k _ hR HC.out (by omega)).mono ?_
  rintro e w1 ⟨v, zs, p, rfl, hz, hp, hd1⟩
  have HD1 : Hid (Drawn w w1 R a len cap v zs p) := hd1
  clear hd1 hR
  go_wp2_with fail
  refine (pick_any R a len cap p _ _ HD1.out.2.1 (HC.out.kept HD1.out.2.2 hlt) (by omega) (by omega) (by omega)).mono ?_
  rintro e w2 ⟨x, rfl, hx0, hx1, hR2, hg2⟩
  have HD2 : Hid (Drawn w w2 R a len cap v zs (p + 1)) := HD1.out.picked hR2 hg2 hlt
  have hs2 := HD2.out.2.2.size
  clear HD1 hR2 hg2
  by_cases h0 : x = 0
  · subst h0
    have hdA : Drawn w (w2.alloc (.cells #[.int .i64 (-1), .int .i64 0, .int .i64 999999999, .int .i64 1000000000] 3)) R a len cap v zs (p + 1) := ⟨HD2.out.1.alloc _, HD2.out.2.1.alloc _, grown_trans HD2.out.2.2 (grown_alloc _ _ _)⟩
    have HDA : Hid (Drawn w (w2.alloc (.cells #[.int .i64 (-1), .int .i64 0, .int .i64 999999999, .int .i64 1000000000] 3)) R a len cap v zs (p + 1)) := hdA
    clear hdA
    have hS : Hid (∀ i, i < 4 → ∃ z, (w2.alloc (.cells #[.int .i64 (-1), .int .i64 0, .int .i64 999999999, .int .i64 1000000000] 3)).cell? ⟨w2.heap.size, i, none⟩ = some (.int .i64 z)) := fun i hi => by
      rw [World.cell?_alloc_new]
      have : i = 0 ∨ i = 1 ∨ i = 2 ∨ i = 3 := by omega
      rcases this with rfl | rfl | rfl | rfl <;> exact ⟨_, rfl⟩
    go_wp2_with fail
    refine (one_any R w2.heap.size 4 a len cap (p + 1) _ HDA.out.2.1 (HC.out.kept HDA.out.2.2 hlt) (by omega) hS.out (by omega) (by omega) (by omega)).mono ?_
    rintro e w3 ⟨z, rfl, hR3, hg3⟩
    have HD3 : Hid (Drawn w w3 R a len cap v zs (p + 1 + 1)) := HDA.out.picked hR3 hg3 hlt
    have hs3 := HD3.out.2.2.size
    clear HDA HD2 hR3 hg3
    go_wp2_with (at_builtin; refine wpList_append_own _ rfl _ _ 23 rfl w.heap.size 3 i0 (.int .i64 0) 1 8 Tryd.underlying23 hi hz0 hz1 hz2 rfl (by decide) _ _ _ rfl (HD3.out.1.alloc _) ⟨w3.heap.size, 0, none⟩ 1 1 [.int .i64 z] rfl rfl (cells_new _ _ _) (int_one _) (by unfold maxLen; omega) (by omega) (by simp; omega) ?_)
    intro v' w4 hown' hgrow _
    have HD4 : Hid (Drawn w w4 R a len cap v' (zs ++ [z]) (p + 1 + 1)) := HD3.out.snoc hlt hown' hgrow
    clear hown' hgrow HD3
    go_wp2
    go_ret
    exact ⟨v', zs ++ [z], p + 1 + 1, rfl, by simp; omega, by omega, HD4.out⟩
  · have h0' : (x == 0) = false := by simpa using h0
    by_cases h1 : x = 1
    · subst h1
      go_wp2_with fail
      refine (pick_any R a len cap (p + 1) _ _ HD2.out.2.1 (HC.out.kept HD2.out.2.2 hlt) (by omega) (by omega) (by omega)).mono ?_
      rintro e w3 ⟨z, rfl, hz0', hz1', hR3, hg3⟩
      have HD3 : Hid (Drawn w w3 R a len cap v zs (p + 1 + 1)) := HD2.out.picked hR3 hg3 hlt
      have hs3 := HD3.out.2.2.size
      have HR3 : Hid (Rd w3 R a len cap ((p + 1 + 1 : Nat) : Int)) := hR3
      clear HD2 hR3 hg3
      have hlit : (w3.alloc (.cells #[.int .i64 z] 3)).ownsRow w.heap.size 3 1 (.slice (some ⟨w3.heap.size, 0, none⟩) 1 1) 1 [.int .i64 z] := ownsRow_mono (World.ownsRow_lit w3 #[.int .i64 z] 1 (Nat.le_refl _) (by decide) rfl) hs3
      have HLIT : Hid ((w3.alloc (.cells #[.int .i64 z] 3)).ownsRow w.heap.size 3 1 (.slice (some ⟨w3.heap.size, 0, none⟩) 1 1) 1 [.int .i64 z]) := hlit
      clear hlit
      obtain ⟨b, c, rfl, hc1, hc2, hrow⟩ := owns_intRowC HD3.out.1
      have hrow1 : IntRow (w3.alloc (.cells #[.int .i64 z] 3)) b zs := hrow.below ((Below.refl _ w3).alloc (Nat.le_refl _) _)
      rcases b with _ | ad
      · have hzs : zs = [] := by
          rcases Nat.eq_zero_or_pos zs.length with h | h
          · exact List.eq_nil_of_length_eq_zero h
          · obtain ⟨_, _, e, _⟩ := hrow h
            cases e
        subst hzs
        obtain rfl : c = 0 := hc2 rfl
        clear hrow hrow1
        go_wp2_with (at_builtin; refine wpList_append_own_none rfl _ _ 23 rfl w.heap.size 3 i0 1 Tryd.underlying23 hi _ _ _ rfl HLIT.out rfl ?_)
        go_ret
        exact ⟨_, [z], p + 1 + 1, rfl, by simp, by omega, HLIT.out, HR3.out.alloc _, grown_trans HD3.out.2.2 (grown_alloc _ _ _)⟩
      · have hnews : ∀ j u, (zs.map (Value.int .i64))[j]? = some u → (w3.alloc (.cells #[.int .i64 z] 3)).cell? (ad.add j) = some u := by
          intro j u hj
          have hjl : j < zs.length := by
            have := (List.getElem?_eq_some_iff.1 hj).1
            simpa using this
          obtain ⟨g, off, e, _, hc⟩ := hrow1 (by omega)
          cases e
          rw [addr_add, hc j hjl, nth_get _ _ hjl, ← hj]
          simp [hjl]
        have HN : Hid (∀ j u, (zs.map (Value.int .i64))[j]? = some u → (w3.alloc (.cells #[.int .i64 z] 3)).cell? (ad.add j) = some u) := hnews
        clear hnews hrow hrow1
        go_wp2_with (at_builtin; refine wpList_append_own _ rfl _ _ 23 rfl w.heap.size 3 i0 (.int .i64 0) 1 8 Tryd.underlying23 hi hz0 hz1 hz2 rfl (by decide) _ _ _ rfl HLIT.out ad zs.length c (zs.map (Value.int .i64)) rfl (by simp) HN.out (ints_one _) (by unfold maxLen; omega) (by omega) (by simp; omega) ?_)
        intro v' w4 hown' hgrow _
        have hrl : ∀ j, (Value.slice (some ⟨w3.heap.size, 0, none⟩) 1 1).ownBlock = some j → w.heap.size ≤ j := fun j hj => (HLIT.out.lt j hj).1
        have HD4 : Hid (Drawn w w4 R a len cap v' (z :: zs) (p + 1 + 1)) := ⟨by rw [show (z :: zs).length = 1 + zs.length from by simp; omega]; exact hown', (HR3.out.alloc _).grown hgrow (fun j hj => by have := hrl j hj; omega), grown_own (grown_trans HD3.out.2.2 (grown_alloc _ _ _)) hgrow hrl⟩
        clear hown' hgrow
        go_wp2
        go_ret
        exact ⟨v', z :: zs, p + 1 + 1, rfl, by simp; omega, by omega, HD4.out⟩
    · have h1' : (x == 1) = false := by simpa using h1
      clear h0 h1
      go_wp2
      go_ret
      exact ⟨v, zs, p + 1, rfl, by omega, by omega, HD2.out⟩
end Go.Proofs.YthaobhghbopgkaaDoor
