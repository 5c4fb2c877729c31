/- A copied slice of strings, as it is read. -/
import Derived.Test.YtefdbcalfaojgaaStrs
namespace Go.Proofs.Ytefdbcalfaojgaa
open Go.RowKit

theorem toStringS2_any (a : Option Addr) (cap : Nat) (zs : List ByteArray) (w : World) (hz : zs.length ≤ 1048576) (hr : SRow w a zs) :
    Calls Try.prog 14 #[.slice a zs.length cap] w fun e w' => ∃ p c, e = .returned (.slice p zs.length c) ∧ StrRow w' p zs ∧ Below w.heap.size w w' := by
  refine (toStringS_any a cap zs w hz hr).mono ?_
  rintro e w' ⟨v, rfl, ho, hb⟩
  obtain ⟨p, c, rfl, hrow⟩ := owns_strRow ho
  exact ⟨p, c, rfl, hrow, hb⟩
end Go.Proofs.Ytefdbcalfaojgaa
