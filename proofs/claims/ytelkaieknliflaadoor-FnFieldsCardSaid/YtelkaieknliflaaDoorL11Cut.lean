/- The contract of l11Cut: a text, cut, or with a sign more. -/
import Derived.Test.YtelkaieknliflaaDoorDrawText
import Derived.Deep.CutBlock
import Derived.Deep.RegionHeld3
import Derived.Deep.RegionWith
import Derived.Deep.RegionLaw
namespace Go.Proofs.YtelkaieknliflaaDoor
open Go.RowKit
set_option linter.unusedVariables false

abbrev lit8 : Array Value := #[.string ⟨#[32]⟩, .string ⟨#[58]⟩, .string ⟨#[10]⟩, .string ⟨#[48]⟩, .string ⟨#[120]⟩, .string ⟨#[61]⟩, .string ⟨#[45]⟩, .string ⟨#[41]⟩]
set_option maxHeartbeats 1000000 in
theorem l11Cut_any (R : Nat) (a : Option Addr) (len cap k : Nat) (s : ByteArray) (w : World) (hR : Rd w R a len cap k) (hC : Code w R a len) (hk : k ≤ 900000) (hs : s.size ≤ 900000) :
    Calls Tryd.prog 28 #[.pointer (some ⟨R, 0, none⟩), .string s] w fun e w' => ∃ (t : ByteArray) (k' : Nat), e = .returned (.string t) ∧ t.size ≤ s.size + 1 ∧ k' ≤ k + 3 ∧ Rd w' R a len cap (k' : Int) ∧ w.grownBy w' (some R) := by
  have hlt := hR.lt
  have HC : Hid (Code w R a len) := hC
  go_enter Tryd.func28, Tryd.ntmps28
  go_wp2_with fail
  refine (pick_any R a len cap k _ _ hR hC (by omega) (by omega) (by omega)).mono ?_
  rintro e w1 ⟨v, rfl, hv0, hv1, hR1, hg1⟩
  obtain ⟨j, rfl⟩ := Int.eq_ofNat_of_zero_le hv0
  have hj : j ≤ s.size := by omega
  go_wp2_with fail
  refine (pick_any R a len cap (k + 1) _ _ hR1 (HC.out.kept hg1 hlt) (by omega) (by omega) (by omega)).mono ?_
  rintro e w2 ⟨x, rfl, hx0, hx1, hR2, hg2⟩
  have hg02 := grown_trans hg1 hg2
  have hRl := hR2.lt
  have HC2 : Hid (Code w2 R a len) := HC.out.kept hg02 hlt
  have HR2 : Hid (Rd w2 R a len cap ((k + 1 + 1 : Nat) : Int)) := hR2
  have HG : Hid (w.grownBy w2 (some R)) := hg02
  clear hR hC hR1 hR2 hg1 hg2 HC hg02
  have hj1 : (j : Int) ≤ (s.size : Int) := by omega
  by_cases x0 : x = 0
  · subst x0
    have SA : Strs (w2.alloc (.cells lit8 9)) w2.heap.size 8 (fun t => t.size ≤ 1) := strs_new w2 lit8 9 1 (by decide +kernel)
    have rA := HR2.out.alloc (.cells lit8 9)
    have cA := HC2.out.kept (grown_alloc w2 (.cells lit8 9) R) hRl
    have nA : w2.heap.size ≠ R := by omega
    go_wp2_with fail
    go_region_with (go_at_call 33; refine (of_any R w2.heap.size 8 a len cap (k + 1 + 1) _ _ (by exact rA) (by exact ⟨cA.1, cA.2⟩) (by omega) (by exact SA) (by omega) (by omega) nA).mono ?_; rintro e w4 ⟨t, rfl, ht, hR4, hg4⟩; have HR4 : Hid (Rd w4 R a len cap ((k + 1 + 1 + 1 : Nat) : Int)) := hR4; have HG4 : Hid (w.grownBy w4 (some R)) := grown_trans HG.out (grown_trans (grown_alloc w2 (.cells lit8 9) R) ⟨hg4.os, hg4.tape, hg4.output, hg4.size, hg4.block⟩); clear hR4 hg4)
    all_goals
      go_wp2
      go_ret
      exact ⟨_, k + 1 + 1 + 1, rfl, by rw [ByteArray.size_append, ByteArray.size_append, ByteArray.size_extract, ByteArray.size_extract]; omega, by omega, HR4.out, HG4.out⟩
  have h0 : (x == 0) = false := by simpa using x0
  by_cases x1 : x = 1
  · subst x1
    go_wp2
    go_ret
    exact ⟨_, k + 1 + 1, rfl, by rw [ByteArray.size_extract]; omega, by omega, HR2.out, HG.out⟩
  · have h1 : (x == 1) = false := by simpa using x1
    go_wp2
    go_ret
    exact ⟨s, k + 1 + 1, rfl, by omega, by omega, HR2.out, HG.out⟩
end Go.Proofs.YtelkaieknliflaaDoor
