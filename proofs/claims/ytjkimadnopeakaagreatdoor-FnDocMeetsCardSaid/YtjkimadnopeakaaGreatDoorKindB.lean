/- Is a field of a kind? -/
import Derived.Test.YtjkimadnopeakaaGreatDoorMg0FnExactMeets
namespace Go.Proofs.YtjkimadnopeakaaGreatDoor
open Go.RowKit
set_option linter.unusedVariables false

def kindB (fs : List Fld) (n : ByteArray) (k : Int) : Bool := (fat fs (fidx fs n)).kind == k
set_option maxHeartbeats 1000000 in
theorem l2Kind_any (a : Option Addr) (cap : Nat) (fs : List Fld) (n : ByteArray) (k : Int) (w : World) (hk0 : k ≠ 0) (hz : fs.length ≤ 1048576) (hr : FldRow w a fs) :
    Calls Tryz.prog 73 #[.slice a fs.length cap, .string n, .int .i64 k] w fun e w' => e = .returned (.bool (kindB fs n k)) ∧ w' = w := by
  have HL : Hid (Calls Tryz.prog 51 #[.slice a fs.length cap, .string n] w fun e w' => ∃ p : Int, e = .returned (.int .i64 p) ∧ FPos fs n p ∧ w' = w) := l2Field_any a cap fs n w hz hr
  go_enter Tryz.func73, Tryz.ntmps73
  go_wp2_with fail
  refine HL.out.mono ?_
  rintro e w1 ⟨q, rfl, hq, rfl⟩
  clear HL
  rcases fpos_idx hq with ⟨j, rfl, hj, hi⟩ | ⟨rfl, hi⟩
  · have HB : Hid (kindB fs n k = ((fat fs j).kind == k)) := by unfold Hid kindB; rw [hi]
    obtain ⟨g, off, rfl, hg, hc⟩ := hr (by omega)
    obtain ⟨c0, c1, c2⟩ := hc j hj
    have h0 : (0 : Int) ≤ (j : Int) := by omega
    have h1 : (j : Int) < (fs.length : Int) := by omega
    clear hq hi hr hc
    generalize fat fs j = f at *
    go_wp2
    go_ret
    exact ⟨by rw [HB.out]; rfl, rfl⟩
  · have HB : Hid (kindB fs n k = false) := by
      unfold Hid kindB
      rw [hi]
      simp [fat]
      exact fun e => hk0 e.symm
    clear hq hi hr
    go_wp2
    go_ret
    exact ⟨by rw [HB.out]; rfl, rfl⟩
end Go.Proofs.YtjkimadnopeakaaGreatDoor
