/- The contract of spec.Terms. -/
import Derived.Test.YtefdbcalfaojgaaIterTerm
import Derived.Test.YtefdbcalfaojgaaStrRow
namespace Go.Proofs.Ytefdbcalfaojgaa
open Go.RowKit

def termsL (s : ByteArray) : List ByteArray := (wordsOn s 0).map fun x => stemA (s.extract x.1 x.2)
theorem termCells_eq (s : ByteArray) : termCells s (wordsOn s 0) = (termsL s).map Value.string := by simp [termCells, termsL]
theorem termsL_len (s : ByteArray) : (termsL s).length = (wordsOn s 0).length := by simp [termsL]
theorem wordCells_len (s : ByteArray) (l : List (Nat × Nat)) : (wordCells s l).length = l.length * 3 := by
  induction l with
  | nil => rfl
  | cons x l ih => simp [wordCells] at ih ⊢; omega
theorem wordCells_at (s : ByteArray) : ∀ (l : List (Nat × Nat)) (k : Nat) (h : k < l.length), (wordCells s l)[k * 3]? = some (.string (s.extract l[k].1 l[k].2)) ∧ (wordCells s l)[k * 3 + 1]? = some (.int .i64 l[k].1) ∧ (wordCells s l)[k * 3 + 2]? = some (.int .i64 l[k].2)
  | [], k, h => by simp at h
  | x :: l, 0, _ => by simp [wordCells]
  | x :: l, k + 1, h => by
    have ih := wordCells_at s l k (by simpa using h)
    have e : wordCells s (x :: l) = [.string (s.extract x.1 x.2), .int .i64 x.1, .int .i64 x.2] ++ wordCells s l := by simp [wordCells]
    rw [e, show (k + 1) * 3 = k * 3 + 3 from by omega]
    simp only [List.getElem_cons_succ]
    refine ⟨?_, ?_, ?_⟩
    · rw [List.getElem?_append_right (by simp)]; simpa using ih.1
    · rw [List.getElem?_append_right (by simp)]; simpa [show k * 3 + 3 + 1 - 3 = k * 3 + 1 from by omega] using ih.2.1
    · rw [List.getElem?_append_right (by simp)]; simpa [show k * 3 + 3 + 2 - 3 = k * 3 + 2 from by omega] using ih.2.2

/-- A slice of words, as it is read. -/
def WordRow (w : World) (a : Option Addr) (s : ByteArray) (l : List (Nat × Nat)) : Prop := 0 < l.length → ∃ g, a = some ⟨g, 0, none⟩ ∧ g < w.heap.size ∧ ∀ (i : Nat) (h : i < l.length), w.cell? ⟨g, i * 3, none⟩ = some (.string (s.extract l[i].1 l[i].2)) ∧ w.cell? ⟨g, i * 3 + 1, none⟩ = some (.int .i64 l[i].1) ∧ w.cell? ⟨g, i * 3 + 2, none⟩ = some (.int .i64 l[i].2)
theorem WordRow.below {w w' : World} {a : Option Addr} {s : ByteArray} {l : List (Nat × Nat)} (h : WordRow w a s l) (hb : Below w.heap.size w w') : WordRow w' a s l := fun hp => by
  obtain ⟨g, e, hg, hc⟩ := h hp
  exact ⟨g, e, by have := hb.size; omega, fun i hi => by rw [hb.cell (p := ⟨g, i * 3, none⟩) hg, hb.cell (p := ⟨g, i * 3 + 1, none⟩) hg, hb.cell (p := ⟨g, i * 3 + 2, none⟩) hg]; exact hc i hi⟩
theorem owns_wordRow {w : World} {base : Nat} {e : TypeId} {v : Value} {s : ByteArray} {l : List (Nat × Nat)} (h : w.ownsRow base e 3 v l.length (wordCells s l)) :
    ∃ a cap, v = .slice a l.length cap ∧ WordRow w a s l := by
  rcases h.2 with ⟨rfl, h0⟩ | ⟨g, cap, cur, rfl, hb, hg, r⟩
  · exact ⟨none, 0, by rw [h0], fun hp => by omega⟩
  · refine ⟨_, cap, rfl, fun hp => ⟨g, rfl, lt_of_block hg, fun i hi => ?_⟩⟩
    have := wordCells_at s l i hi
    rw [h.cellAt (i * 3) (by omega), h.cellAt (i * 3 + 1) (by omega), h.cellAt (i * 3 + 2) (by omega)]
    exact this

def termsTo (s : ByteArray) (L : List (Nat × Nat)) (k : Nat) : List Value := (L.take k).map fun x => .string (stemA (s.extract x.1 x.2))
theorem termsTo_snoc (s : ByteArray) (L : List (Nat × Nat)) (k : Nat) (h : k < L.length) : termsTo s L (k + 1) = termsTo s L k ++ [.string (stemA (s.extract L[k].1 L[k].2))] := by
  rw [termsTo, List.take_succ_eq_append_getElem h, List.map_append]
  rfl

theorem termsI2_any (s : ByteArray) (w : World) (hs : s.size ≤ 1048576) :
    Calls Try.prog 11 #[.string s] w fun e w' => ∃ v, e = .returned v ∧ w'.ownsRow w.heap.size 9 1 v (termsL s).length ((termsL s).map Value.string) ∧ Below w.heap.size w w' := by
  refine (termsI_any s w hs).mono ?_
  rintro e w' ⟨v, rfl, h1, _, h3⟩
  exact ⟨v, rfl, by rw [termsL_len, ← termCells_eq]; exact h1, h3⟩
theorem termsL_le (s : ByteArray) : (termsL s).length ≤ s.size := by rw [termsL_len]; exact wordsOn_len s s.size 0 (by omega)
end Go.Proofs.Ytefdbcalfaojgaa
