/- Plain mathematics of words: they stand one behind the other. -/
import Derived.Test.YtefdbcalfaojgaaWordsPlain
namespace Go.Proofs.Ytefdbcalfaojgaa
open Go.RowKit

theorem wordsOn_first (s : ByteArray) : ∀ n i, s.size - i ≤ n → ∀ x ∈ wordsOn s i, i ≤ x.1 := fun n i h x hx => (wordsOn_mem s n i h x hx).1
theorem wordsOn_apart (s : ByteArray) : ∀ n i, s.size - i ≤ n → ∀ k (h : k + 1 < (wordsOn s i).length), ((wordsOn s i)[k]'(by omega)).2 < (wordsOn s i)[k + 1].1
  | 0, i, hn, k, h => by rw [wordsOn_past s i (by omega)] at h; simp at h
  | n + 1, i, hn, k, h => by
    by_cases hlt : i < s.size
    · have r := wordEnd_end s i (by omega)
      by_cases he : wordEnd s i = i
      · have e := wordsOn_none s i hlt he
        have ih := wordsOn_apart s n (i + 1) (by omega) k (by rw [← e]; exact h)
        simp only [e]
        exact ih
      · have e : wordsOn s i = (i, wordEnd s i) :: wordsOn s (wordEnd s i + 1) := by rw [wordsOn_word s i hlt he, wordsOn_skip s _ r.size (wordEnd_again s i (by omega))]
        have hle := r.le
        cases k with
        | zero =>
          simp only [e, List.getElem_cons_zero, List.getElem_cons_succ]
          have hl : 0 < (wordsOn s (wordEnd s i + 1)).length := by rw [e] at h; simpa using h
          have := wordsOn_first s n (wordEnd s i + 1) (by omega) _ (List.getElem_mem (l := wordsOn s (wordEnd s i + 1)) hl)
          omega
        | succ k =>
          have ih := wordsOn_apart s n (wordEnd s i + 1) (by omega) k (by rw [e] at h; simpa using h)
          simp only [e, List.getElem_cons_succ]
          exact ih
    · rw [wordsOn_past s i hlt] at h; simp at h

/-- The word at a place. -/
def wat (l : List (Nat × Nat)) (i : Nat) : Nat × Nat := l.getD i (0, 0)
theorem wat_get (l : List (Nat × Nat)) (k : Nat) (h : k < l.length) : wat l k = l[k] := by unfold wat; rw [List.getD_eq_getElem?_getD, List.getElem?_eq_getElem h]; rfl
theorem wat_bd (s : ByteArray) (k : Nat) (h : k < (wordsOn s 0).length) : (wat (wordsOn s 0) k).1 < (wat (wordsOn s 0) k).2 ∧ (wat (wordsOn s 0) k).2 ≤ s.size := by
  rw [wat_get _ _ h]
  have := wordsOn_mem s s.size 0 (by omega) _ (List.getElem_mem h)
  exact ⟨this.2.1, this.2.2.1⟩
theorem wat_le (s : ByteArray) (i j : Nat) (hij : i ≤ j) (h : j < (wordsOn s 0).length) : (wat (wordsOn s 0) i).1 < (wat (wordsOn s 0) j).2 := by
  obtain ⟨d, rfl⟩ : ∃ d, j = i + d := ⟨j - i, by omega⟩
  clear hij
  induction d with
  | zero => exact (wat_bd s i h).1
  | succ d ih =>
    have h1 := ih (by omega)
    have h2 := wordsOn_apart s s.size 0 (by omega) (i + d) (by omega)
    have h3 := (wat_bd s (i + d + 1) h).1
    rw [← wat_get _ _ (by omega), ← wat_get _ _ (by omega)] at h2
    rw [← Nat.add_assoc]
    omega
end Go.Proofs.Ytefdbcalfaojgaa
