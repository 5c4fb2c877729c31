/- laws.toDoc: its cells are the call's own. -/
import Derived.Test.YtjjfabemhdhppaaDoorCels
namespace Go.Proofs.YtjjfabemhdhppaaDoor
open Go.RowKit
set_option linter.unusedVariables false

theorem own_set {w : World} {base : Nat} {e : TypeId} {size : Nat} {v : Value} {n : Nat} {xs : List Value} (h : w.ownsRow base e size v n xs) {p : Addr} (hp : p.block < base) (x : Value) : (w.setCell p x).ownsRow base e size v n xs := by
  refine ⟨h.1, ?_⟩
  rcases h.2 with h2 | ⟨g', c', cur, e, h3, h4, h5⟩
  · exact .inl h2
  · exact .inr ⟨g', c', cur, e, h3, (Below.heap_setCell _ _ _ _ (by omega)).trans h4, h5⟩
end Go.Proofs.YtjjfabemhdhppaaDoor
