/- A text begins with another one: both sides. -/
import Derived.Test.YtjkimadnopeakaaGreatDoorMg0FnExactMeets
namespace Go.Proofs.YtjkimadnopeakaaGreatDoor
open Go.RowKit
set_option linter.unusedVariables false

def preB (b t : ByteArray) : Bool := decide (b.size ≤ t.size) && ((t.extract 0 b.size).toList == b.toList)
set_option maxHeartbeats 400000 in
theorem hasPre_lite (s b : ByteArray) (w : World) : Calls Tryz.prog 121 #[.string s, .string b] w fun e w' => e = .returned (.bool (preB b s)) ∧ w' = w := by
  by_cases h : b.size ≤ s.size
  · have hi : (b.size : Int) ≤ (s.size : Int) := by omega
    have HP : Hid (preB b s = ((s.extract 0 b.size).toList == b.toList)) := by unfold Hid preB; rw [decide_eq_true h, Bool.true_and]
    go_enter Tryz.func121, Tryz.ntmps121
    go_wp2
    go_ret
    exact ⟨by rw [HP.out]; rfl, rfl⟩
  · have hi : decide ((b.size : Int) ≤ (s.size : Int)) = false := decide_eq_false (by omega)
    have HP : Hid (preB b s = false) := by unfold Hid preB; rw [decide_eq_false h, Bool.false_and]
    go_enter Tryz.func121, Tryz.ntmps121
    go_wp2
    go_ret
    exact ⟨by rw [HP.out]; rfl, rfl⟩
theorem hasPre_any (s b : ByteArray) (w : World) : Calls Tryz.prog 83 #[.string s, .string b] w fun e w' => e = .returned (.bool (preB b s)) ∧ w' = w := by
  go_enter Tryz.func83, Tryz.ntmps83
  go_wp2_with fail
  refine (hasPre_lite s b _).mono ?_
  rintro e w1 ⟨rfl, rfl⟩
  go_wp2
  go_ret
  exact ⟨rfl, rfl⟩
set_option maxHeartbeats 400000 in
theorem l4Begins_any (s b : ByteArray) (w : World) : Calls Tryz.prog 160 #[.string s, .string b] w fun e w' => e = .returned (.bool (preB b s)) ∧ w' = w := by
  by_cases h : b.size ≤ s.size
  · have hi : (b.size : Int) ≤ (s.size : Int) := by omega
    have HP : Hid (preB b s = ((s.extract 0 b.size).toList == b.toList)) := by unfold Hid preB; rw [decide_eq_true h, Bool.true_and]
    go_enter Tryz.func160, Tryz.ntmps160
    go_wp2
    go_ret
    exact ⟨by rw [HP.out]; rfl, rfl⟩
  · have hi : decide ((b.size : Int) ≤ (s.size : Int)) = false := decide_eq_false (by omega)
    have HP : Hid (preB b s = false) := by unfold Hid preB; rw [decide_eq_false h, Bool.false_and]
    go_enter Tryz.func160, Tryz.ntmps160
    go_wp2
    go_ret
    exact ⟨by rw [HP.out]; rfl, rfl⟩
theorem preB_none {b : ByteArray} (h : 0 < b.size) : preB b ⟨#[]⟩ = false := by
  unfold preB
  rw [decide_eq_false (by show ¬ b.size ≤ 0; omega), Bool.false_and]
end Go.Proofs.YtjkimadnopeakaaGreatDoor
