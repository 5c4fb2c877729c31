/- The walk of the law FnExactFieldsOk. -/
import Derived.Test.YtinniomeblkmeaaDoorFldsOk3
namespace Go.Proofs.YtinniomeblkmeaaDoor
open Go.RowKit
theorem toFieldS2_any (a : Option Addr) (cap : Nat) (fs : List Fld) (w : World) (hz : fs.length ≤ 1048576) (hr : FldRow w a fs) :
    Calls Tryd.prog 40 #[.slice a fs.length cap] w fun e w' => ∃ p c, e = .returned (.slice p fs.length c) ∧ fs.length ≤ c ∧ FldRow w' p fs ∧ Below w.heap.size w w' := by
  refine (toFieldS_any a cap fs w hz hr).mono ?_
  rintro e w' ⟨v, xs, rfl, ho, ht, hb⟩
  obtain ⟨p, c, rfl, hc, _, hrow⟩ := owns_fldRow ho ht
  exact ⟨p, c, rfl, hc, hrow, hb⟩

end Go.Proofs.YtinniomeblkmeaaDoor
