/- Words of what is folded stand where they stood, and are looked for as the same. -/
import Derived.Test.YtbkehpoigaeboaaTermsS
import Derived.Test.YtbkehpoigaeboaaFoldMore
import Derived.Test.YtbkehpoigaeboaaDrawTerm
namespace Go.Proofs.Ytbkehpoigaeboaa
open Go.RowKit

theorem partB_lowI (n : Int) (h0 : 0 ≤ n) (h1 : n ≤ 255) : partB (lowI n) = partB n := by
  by_cases h : 65 ≤ n ∧ n ≤ 90
  · rw [lowI_yes n h.1 h.2, Bool.eq_iff_iff]
    simp [partB, smallB, greatB, figureB]
    omega
  · rw [lowI_no n (by omega)]
theorem fold_part (s : ByteArray) (k : Nat) (h : k < s.size) : partB (byteAt (foldA s) k) = partB (byteAt s k) := by
  rw [fold_byte s k h]
  exact partB_lowI _ (byteAt_bd s k).1 (byteAt_bd s k).2
theorem fold_wordEnd (s : ByteArray) (i : Nat) (h : i ≤ s.size) : wordEnd (foldA s) i = wordEnd s i := by
  have hz := fold_size s
  have r := wordEnd_end s i h
  refine (wordEnd_end (foldA s) i (by omega)).uniq ⟨r.le, by rw [hz]; exact r.size, fun x h1 h2 => ?_, fun hlt => ?_⟩
  · rw [fold_part s x (by have := r.size; omega)]; exact r.all x h1 h2
  · rw [fold_part s _ (by omega)]; exact r.stop (by omega)
theorem fold_wordsOn (s : ByteArray) : ∀ n i, s.size - i ≤ n → wordsOn (foldA s) i = wordsOn s i
  | 0, i, h => by rw [wordsOn_past s i (by omega), wordsOn_past _ i (by rw [fold_size]; omega)]
  | n + 1, i, h => by
    have hz := fold_size s
    by_cases hlt : i < s.size
    · have he := fold_wordEnd s i (by omega)
      have r := wordEnd_end s i (by omega)
      by_cases hw : wordEnd s i = i
      · rw [wordsOn_none s i hlt hw, wordsOn_none (foldA s) i (by omega) (by omega), fold_wordsOn s n (i + 1) (by omega)]
      · rw [wordsOn_word s i hlt hw, wordsOn_word (foldA s) i (by omega) (by omega), he, fold_wordsOn s n _ (by have := r.le; omega)]
    · rw [wordsOn_past s i hlt, wordsOn_past _ i (by omega)]
theorem fold_extract (s : ByteArray) (a b : Nat) : (foldA s).extract a b = foldA (s.extract a b) := by
  apply ByteArray.ext
  rw [ByteArray.data_extract]
  simp only [foldA, ByteArray.data_extract]
  apply Array.ext'
  simp [List.map_drop, List.map_take]
theorem fold_termsL (s : ByteArray) : termsL (foldA s) = termsL s := by
  unfold termsL
  rw [fold_wordsOn s s.size 0 (by omega)]
  refine List.map_congr_left fun x _ => ?_
  rw [fold_extract, stemA_fold]
end Go.Proofs.Ytbkehpoigaeboaa
