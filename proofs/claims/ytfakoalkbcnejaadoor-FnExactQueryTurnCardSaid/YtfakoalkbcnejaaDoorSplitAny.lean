/- strings.Split at one byte. -/
import Derived.Test.YtfakoalkbcnejaaDoorBase
import Derived.Test.YtfakoalkbcnejaaDoorCutPlain
import Derived.Test.YtfakoalkbcnejaaDoorShelf
import Derived.Test.YtfakoalkbcnejaaDoorStrRow
namespace Go.Proofs.YtfakoalkbcnejaaDoor
open Go.RowKit
set_option linter.unusedVariables false

/-- The cell of internal/bytealg.MaxLen holds an int. -/
def MaxL (w : World) : Prop := ∃ m, w.cell? ⟨0, 0, none⟩ = some (.int .i64 m)
theorem MaxL.below {w w' : World} (h : MaxL w) (hb : Below w.heap.size w w') : MaxL w' := by
  obtain ⟨m, hm⟩ := h
  exact ⟨m, (hb.cell (p := ⟨0, 0, none⟩) (cell_lt hm)).trans hm⟩
theorem split_any (s : ByteArray) (b : UInt8) (w : World) (hs : s.size ≤ 1048576) (hm : MaxL w) :
    Calls Tryd.prog 92 #[.string s, .string ⟨#[b]⟩] w fun e w' => ∃ g, e = .returned (.slice (some ⟨g, 0, none⟩) (manyB b s + 1) (manyB b s + 1)) ∧ StrRow w' (some ⟨g, 0, none⟩) (cuts b (manyB b s) s) ∧ Below w.heap.size w w' := by
  obtain ⟨m, hm⟩ := hm
  refine (Tryd.strings_Split s ⟨#[b]⟩ m w (by omega) hm (Nat.le_refl 1)).mono ?_
  rintro e w' ⟨rfl, rfl⟩
  refine ⟨w.heap.size, rfl, fun hp => ⟨w.heap.size, rfl, by simp, fun i hi => ?_⟩, (Below.refl _ w).alloc (Nat.le_refl _) _⟩
  rw [World.cell?_alloc_new]
  show (((cuts b (manyB b s) s).map Value.string).toArray)[i]? = _
  rw [List.getElem?_toArray, List.getElem?_map, List.getElem?_eq_getElem hi, List.getD_eq_getElem?_getD, List.getElem?_eq_getElem hi]
  rfl
end Go.Proofs.YtfakoalkbcnejaaDoor
