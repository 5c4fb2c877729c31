/- Words of two texts side by side: plain mathematics. -/
import Derived.Test.YtjkimadnopeakaaGreatDoorWordsPlain
namespace Go.Proofs.YtjkimadnopeakaaGreatDoor
open Go.RowKit

theorem byteAt_append_left (s t : ByteArray) (k : Nat) (h : k < s.size) : byteAt (s ++ t) k = byteAt s k := by
  unfold byteAt
  rw [ByteArray.data_append, Array.toList_append, List.getD_eq_getElem?_getD, List.getD_eq_getElem?_getD, List.getElem?_append_left (by simpa using h)]
theorem byteAt_append_right (s t : ByteArray) (k : Nat) : byteAt (s ++ t) (s.size + k) = byteAt t k := by
  unfold byteAt
  rw [ByteArray.data_append, Array.toList_append, List.getD_eq_getElem?_getD, List.getD_eq_getElem?_getD, List.getElem?_append_right (by simp)]
  congr 2
  simp
theorem right_wordEnd (s t : ByteArray) (j : Nat) (h : j ≤ t.size) : wordEnd (s ++ t) (s.size + j) = s.size + wordEnd t j := by
  have r := wordEnd_end t j h
  have hz : (s ++ t).size = s.size + t.size := ByteArray.size_append
  refine (wordEnd_end (s ++ t) _ (by omega)).uniq ⟨by have := r.le; omega, by have := r.size; omega, fun x h1 h2 => ?_, fun hlt => ?_⟩
  · obtain ⟨y, rfl⟩ : ∃ y, x = s.size + y := ⟨x - s.size, by omega⟩
    rw [byteAt_append_right]; exact r.all y (by omega) (by omega)
  · rw [byteAt_append_right]; exact r.stop (by omega)
theorem right_wordsOn (s t : ByteArray) : ∀ n j, t.size - j ≤ n → j ≤ t.size → wordsOn (s ++ t) (s.size + j) = (wordsOn t j).map fun x => (s.size + x.1, s.size + x.2)
  | 0, j, h, hj => by
    have hz : (s ++ t).size = s.size + t.size := ByteArray.size_append
    rw [wordsOn_past t j (by omega), wordsOn_past _ _ (by omega)]; rfl
  | n + 1, j, h, hj => by
    have hz : (s ++ t).size = s.size + t.size := ByteArray.size_append
    by_cases hlt : j < t.size
    · have he := right_wordEnd s t j hj
      have r := wordEnd_end t j hj
      by_cases hw : wordEnd t j = j
      · rw [wordsOn_none t j hlt hw, wordsOn_none _ _ (by omega) (by omega), Nat.add_assoc, right_wordsOn s t n (j + 1) (by omega) (by omega)]
      · rw [wordsOn_word t j hlt hw, wordsOn_word _ _ (by omega) (by omega), he, right_wordsOn s t n _ (by have := r.le; omega) r.size]
        rfl
    · rw [wordsOn_past t j hlt, wordsOn_past _ _ (by omega)]; rfl
theorem left_wordEnd (s t : ByteArray) (i : Nat) (h : i ≤ s.size) (ht : 0 < t.size) (hb : partB (byteAt t 0) = false) : wordEnd (s ++ t) i = wordEnd s i := by
  have r := wordEnd_end s i h
  have hz : (s ++ t).size = s.size + t.size := ByteArray.size_append
  refine (wordEnd_end (s ++ t) _ (by omega)).uniq ⟨r.le, by have := r.size; omega, fun x h1 h2 => ?_, fun hlt => ?_⟩
  · rw [byteAt_append_left _ _ _ (by have := r.size; omega)]; exact r.all x h1 h2
  · by_cases e : wordEnd s i < s.size
    · rw [byteAt_append_left _ _ _ e]; exact r.stop e
    · have e' : wordEnd s i = s.size + 0 := by have := r.size; omega
      rw [e', byteAt_append_right]; exact hb
theorem left_wordsOn (s t : ByteArray) (ht : 0 < t.size) (hb : partB (byteAt t 0) = false) : ∀ n i, s.size - i ≤ n → i ≤ s.size → wordsOn (s ++ t) i = wordsOn s i ++ wordsOn (s ++ t) (s.size + 1)
  | n, i, h, hi => by
    have hz : (s ++ t).size = s.size + t.size := ByteArray.size_append
    by_cases hlt : i < s.size
    · match n, h with
      | 0, h => omega
      | n + 1, h =>
        have he := left_wordEnd s t i hi ht hb
        have r := wordEnd_end s i hi
        by_cases hw : wordEnd s i = i
        · rw [wordsOn_none s i hlt hw, wordsOn_none _ _ (by omega) (by omega), left_wordsOn s t ht hb n (i + 1) (by omega) (by omega)]
        · rw [wordsOn_word s i hlt hw, wordsOn_word _ _ (by omega) (by omega), he, left_wordsOn s t ht hb n _ (by have := r.le; omega) r.size]
          rfl
    · have e : i = s.size := by omega
      subst e
      have hw : wordEnd (s ++ t) s.size = s.size := by
        rw [left_wordEnd s t s.size (Nat.le_refl _) ht hb]
        have r := wordEnd_end s s.size (Nat.le_refl _)
        have := r.le
        have := r.size
        omega
      rw [wordsOn_past s _ (Nat.lt_irrefl _), List.nil_append, wordsOn_none _ _ (by omega) hw]
theorem left_extract (s t : ByteArray) (a b : Nat) (h : b ≤ s.size) : (s ++ t).extract a b = s.extract a b := by
  apply ByteArray.ext
  rw [ByteArray.data_extract, ByteArray.data_extract, ByteArray.data_append]
  apply Array.ext'
  rw [Array.toList_extract, Array.toList_extract, Array.toList_append]
  simp only [List.extract_eq_take_drop]
  by_cases hab : a ≤ b
  · rw [List.drop_append_of_le_length (by simp; omega), List.take_append_of_le_length (by simp; omega)]
  · rw [show b - a = 0 from by omega]; rfl
theorem right_extract (s t : ByteArray) (a b : Nat) : (s ++ t).extract (s.size + a) (s.size + b) = t.extract a b := by
  apply ByteArray.ext
  rw [ByteArray.data_extract, ByteArray.data_extract, ByteArray.data_append]
  apply Array.ext'
  rw [Array.toList_extract, Array.toList_extract, Array.toList_append]
  simp only [List.extract_eq_take_drop]
  rw [show s.size + b - (s.size + a) = b - a from by omega]
  congr 1
  rw [show s.size = s.data.toList.length from by simp, List.drop_append]
  simp
end Go.Proofs.YtjkimadnopeakaaGreatDoor
