/- Which field has a name. -/
import Derived.Test.YtfakoalkbcnejaaDoorFldsOk3
namespace Go.Proofs.YtfakoalkbcnejaaDoor
open Go.RowKit
set_option linter.unusedVariables false

def fidx (fs : List Fld) (n : ByteArray) : Nat := fs.findIdx fun f => f.name.toList == n.toList
theorem noneTo_at {fs : List Fld} {n : ByteArray} {k : Nat} (h : noneTo fs n k = true) (j : Nat) (hj : j < k) : ((fat fs j).name.toList == n.toList) = false := by
  have := (allTo_iff _ _).1 h j hj
  simpa using this
theorem fidx_at {fs : List Fld} {n : ByteArray} {k : Nat} (hk : k < fs.length) (h1 : ((fat fs k).name.toList == n.toList) = true) (h2 : noneTo fs n k = true) : fidx fs n = k := by
  unfold fidx
  rw [List.findIdx_eq hk]
  rw [fat_get _ _ hk] at h1
  refine ⟨h1, fun j hj => ?_⟩
  have := noneTo_at h2 j hj
  rw [fat_get _ _ (by omega)] at this
  exact this
theorem fidx_none {fs : List Fld} {n : ByteArray} (h : noneTo fs n fs.length = true) : fidx fs n = fs.length := by
  unfold fidx
  rw [List.findIdx_eq_length]
  intro f hf
  obtain ⟨j, hj, rfl⟩ := List.getElem_of_mem hf
  have := noneTo_at h j hj
  rw [fat_get _ _ hj] at this
  exact this
theorem fpos_idx {fs : List Fld} {n : ByteArray} {p : Int} (h : FPos fs n p) : (∃ k : Nat, p = k ∧ k < fs.length ∧ fidx fs n = k) ∨ (p = -1 ∧ fidx fs n = fs.length) := by
  rcases h with ⟨k, hk, rfl, h1, h2⟩ | ⟨rfl, h2⟩
  · exact .inl ⟨k, rfl, hk, fidx_at hk h1 h2⟩
  · exact .inr ⟨rfl, fidx_none h2⟩
theorem found_idx {fs : List Fld} {n : ByteArray} {f : Fld} {b : Bool} (h : FoundF fs n f b) : (b = true ∧ fidx fs n < fs.length ∧ f = fat fs (fidx fs n)) ∨ (b = false ∧ fidx fs n = fs.length) := by
  rcases h with ⟨rfl, k, hk, rfl, h1, h2⟩ | ⟨rfl, _, h2⟩
  · refine .inl ⟨rfl, ?_⟩
    rw [fidx_at hk h1 h2]
    exact ⟨hk, rfl⟩
  · exact .inr ⟨rfl, fidx_none h2⟩
end Go.Proofs.YtfakoalkbcnejaaDoor
