/- The cells of a row of fields. -/
import Derived.Test.YtlbigfgjalmhiaaFlds
namespace Go.Proofs.Ytlbigfgjalmhiaa
open Go.RowKit

theorem fldCells_snoc (fs : List Fld) (f : Fld) : fldCells (fs ++ [f]) = fldCells fs ++ [.string f.name, .int .i64 f.kind, .int .i64 f.weight] := by simp [fldCells, Fld.cells]
theorem fldCells_cons (f : Fld) (fs : List Fld) : fldCells (f :: fs) = .string f.name :: .int .i64 f.kind :: .int .i64 f.weight :: fldCells fs := by simp [fldCells, Fld.cells]
theorem fldTo_cells : ∀ fs : List Fld, FldTo (fldCells fs) fs fs.length
  | [], i, hi => absurd hi (by simp)
  | f :: fs, 0, _ => ⟨rfl, rfl, rfl⟩
  | f :: fs, i + 1, hi => by
    have h := fldTo_cells fs i (by simpa using hi)
    have e1 : (i + 1) * 3 = i * 3 + 1 + 1 + 1 := by omega
    rw [fldCells_cons, e1]
    exact h
theorem three_one (a : ByteArray) (x y : Int) : ∀ u ∈ [Value.string a, Value.int .i64 x, Value.int .i64 y], u.oneCell' = true := by
  intro u hu
  simp at hu
  rcases hu with rfl | rfl | rfl <;> rfl
theorem fldCells_len (fs : List Fld) : (fldCells fs).length = fs.length * 3 := by
  induction fs with
  | nil => rfl
  | cons f fs ih => rw [fldCells_cons]; simp [ih]; omega
theorem flds_one (fs : List Fld) : ∀ u ∈ fldCells fs, u.oneCell' = true := by
  intro u hu
  simp only [fldCells, List.mem_flatMap] at hu
  obtain ⟨f, _, hu⟩ := hu
  simp [Fld.cells] at hu
  rcases hu with rfl | rfl | rfl <;> rfl
theorem fldRow_cells {w : World} {g off : Nat} {fs : List Fld} (h : FldRow w (some ⟨g, off, none⟩) fs) : ∀ j u, (fldCells fs)[j]? = some u → w.cell? ((⟨g, off, none⟩ : Addr).add j) = some u := by
  intro j u hj
  have hlen : j < fs.length * 3 := by rw [← fldCells_len]; exact (List.getElem?_eq_some_iff.1 hj).1
  obtain ⟨g', off', e, hg, hc⟩ := h (by omega)
  cases e
  rw [addr_add]
  have hi : j / 3 < fs.length := by omega
  obtain ⟨q0, q1, q2⟩ := hc (j / 3) hi
  obtain ⟨p0, p1, p2⟩ := fldTo_cells fs (j / 3) hi
  rcases (show j = j / 3 * 3 ∨ j = j / 3 * 3 + 1 ∨ j = j / 3 * 3 + 2 from by omega) with e | e | e
  · rw [e, p0] at hj; rw [e, q0]; exact hj
  · rw [e, p1] at hj; rw [e, ← Nat.add_assoc, q1]; exact hj
  · rw [e, p2] at hj; rw [e, ← Nat.add_assoc, q2]; exact hj
end Go.Proofs.Ytlbigfgjalmhiaa
