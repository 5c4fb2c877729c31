/- How texts are held against each other: cmp.Compare. -/
import Derived.Test.YtbifagdcnpnpjaaGreatCommon
namespace Go.Proofs.YtbifagdcnpnpjaaGreat
open Go.RowKit
set_option linter.unusedVariables false

theorem isNaNs_any (s : ByteArray) (w : World) : Calls Tryz.prog 165 #[.string s] w fun e w' => e = .returned (.bool false) ∧ w' = w := by
  go_enter Tryz.func165, Tryz.ntmps165
  go_wp2
  go_ret
  exact ⟨rfl, rfl⟩
/-- How two texts stand. -/
def cmpT (s t : ByteArray) : Int := if Op.bytesLess s.toList t.toList then -1 else if (s.toList == t.toList) then 0 else 1
theorem compare_any (s t : ByteArray) (w : World) : Calls Tryz.prog 161 #[.string s, .string t] w fun e w' => e = .returned (.int .i64 (cmpT s t)) ∧ w' = w := by
  cases h1 : Op.bytesLess s.toList t.toList
  all_goals cases h2 : (s.toList == t.toList)
  all_goals
    have HC : Hid (cmpT s t = if Op.bytesLess s.toList t.toList then -1 else if (s.toList == t.toList) then 0 else 1) := rfl
    rw [h1, h2] at HC
    go_enter Tryz.func161, Tryz.ntmps161
    go_wp2_with fail
    refine (isNaNs_any s _).mono ?_
    rintro e w1 ⟨rfl, rfl⟩
    go_wp2_with fail
    refine (isNaNs_any t _).mono ?_
    rintro e w1 ⟨rfl, rfl⟩
    go_wp2
    go_ret
    exact ⟨by rw [HC.out]; rfl, rfl⟩
end Go.Proofs.YtbifagdcnpnpjaaGreat
