/- The walks of the laws FnExactSetOk and FnExactSetHas, and the contracts of SetHas. -/
import Derived.Test.YthaobhghbopgkaaDoorToInts
import Derived.Test.YthaobhghbopgkaaDoorSetOk
import Derived.Test.YthaobhghbopgkaaDoorEqInts
namespace Go.Proofs.YthaobhghbopgkaaDoor
open Go.RowKit

theorem toIntS2_any (a : Option Addr) (cap : Nat) (zs : List Int) (w : World) (hz : zs.length ≤ 1099511627776) (hr : IntRow w a zs) :
    Calls Tryd.prog 14 #[.slice a zs.length cap] w fun e w' => ∃ a' cap', e = .returned (.slice a' zs.length cap') ∧ w'.ownsRow w.heap.size 3 1 (.slice a' zs.length cap') zs.length (zs.map (Value.int .i64)) ∧ IntRow w' a' zs ∧ Below w.heap.size w w' := by
  refine (toIntS_any a cap zs w hz hr).mono ?_
  rintro e w' ⟨v, rfl, h1, h2⟩
  obtain ⟨a', c', rfl, hr'⟩ := owns_intRow h1
  exact ⟨a', c', rfl, h1, hr', h2⟩

end Go.Proofs.YthaobhghbopgkaaDoor
