/- Words of a part of a text, from the beginning of one word to the end of another: plain mathematics. -/
import Derived.Test.YtmgpfhknkekeiaaTermsS
import Derived.Test.YtmgpfhknkekeiaaWordsMore
namespace Go.Proofs.Ytmgpfhknkekeiaa
open Go.RowKit

theorem part_size (s : ByteArray) (f t : Nat) (h : t ≤ s.size) : (s.extract f t).size = t - f := by rw [ByteArray.size_extract]; omega
theorem part_toList (s : ByteArray) (f t : Nat) : (s.extract f t).data.toList = (s.data.toList.drop f).take (t - f) := by
  rw [ByteArray.data_extract, Array.toList_extract, List.extract_eq_take_drop]
theorem part_byte (s : ByteArray) (f t j : Nat) (h : j < t - f) : byteAt (s.extract f t) j = byteAt s (f + j) := by
  unfold byteAt
  rw [part_toList, List.getD_eq_getElem?_getD, List.getD_eq_getElem?_getD, List.getElem?_take_of_lt h, List.getElem?_drop]
theorem part_part (s : ByteArray) (f t a b : Nat) (h : f + b ≤ t) : (s.extract f t).extract a b = s.extract (f + a) (f + b) := by
  apply ByteArray.ext
  apply Array.ext'
  rw [part_toList, part_toList, part_toList]
  rw [show f + b - (f + a) = b - a from by omega, List.drop_take, List.take_take, List.drop_drop]
  congr 1
  omega
theorem part_wordEnd (s : ByteArray) (f t : Nat) (hft : f ≤ t) (ht : t ≤ s.size) (hs : t < s.size → partB (byteAt s t) = false) (i : Nat) (hi : i ≤ t - f) : wordEnd s (f + i) = f + wordEnd (s.extract f t) i := by
  have hz := part_size s f t ht
  have r := wordEnd_end (s.extract f t) i (by omega)
  have hr := r.size
  refine (wordEnd_end s _ (by omega)).uniq ⟨by have := r.le; omega, by omega, fun x h1 h2 => ?_, fun hlt => ?_⟩
  · obtain ⟨y, rfl⟩ : ∃ y, x = f + y := ⟨x - f, by omega⟩
    rw [← part_byte s f t y (by omega)]
    exact r.all y (by omega) (by omega)
  · by_cases e : wordEnd (s.extract f t) i < t - f
    · rw [← part_byte s f t _ e]
      exact r.stop (by omega)
    · rw [show f + wordEnd (s.extract f t) i = t from by omega] at hlt ⊢
      exact hs hlt
theorem part_wordsOn (s : ByteArray) (f t : Nat) (hft : f ≤ t) (ht : t ≤ s.size) (hs : t < s.size → partB (byteAt s t) = false) : ∀ n i, t - f - i ≤ n → i ≤ t - f →
    wordsOn s (f + i) = (wordsOn (s.extract f t) i).map (fun x => (f + x.1, f + x.2)) ++ wordsOn s t
  | n, i, h, hi => by
    have hz := part_size s f t ht
    by_cases hlt : i < t - f
    · match n, h with
      | 0, h => omega
      | n + 1, h =>
        have he := part_wordEnd s f t hft ht hs i hi
        have r := wordEnd_end (s.extract f t) i (by omega)
        by_cases hw : wordEnd (s.extract f t) i = i
        · rw [wordsOn_none _ i (by omega) hw, wordsOn_none s _ (by omega) (by omega), Nat.add_assoc, part_wordsOn s f t hft ht hs n (i + 1) (by omega) (by omega)]
        · rw [wordsOn_word _ i (by omega) hw, wordsOn_word s _ (by omega) (by omega), he, part_wordsOn s f t hft ht hs n _ (by have := r.le; omega) (by have := r.size; omega)]
          rfl
    · have e : f + i = t := by omega
      rw [e, wordsOn_past (s.extract f t) i (by omega)]
      rfl
/-- From the beginning of a word on, and from its end on. -/
theorem drop_wordsOn (s : ByteArray) : ∀ n i, s.size - i ≤ n → ∀ k (h : k < (wordsOn s i).length), wordsOn s (wordsOn s i)[k].1 = (wordsOn s i).drop k ∧ wordsOn s (wordsOn s i)[k].2 = (wordsOn s i).drop (k + 1)
  | 0, i, hn, k, h => by rw [wordsOn_past s i (by omega)] at h; simp at h
  | n + 1, i, hn, k, h => by
    by_cases hlt : i < s.size
    · have r := wordEnd_end s i (by omega)
      by_cases he : wordEnd s i = i
      · have e := wordsOn_none s i hlt he
        have ih := drop_wordsOn s n (i + 1) (by omega) k (by rw [← e]; exact h)
        simp only [e]
        exact ih
      · have e := wordsOn_word s i hlt he
        have hle := r.le
        cases k with
        | zero =>
          simp only [e, List.getElem_cons_zero, List.drop_zero, List.drop_succ_cons]
          exact ⟨trivial, trivial⟩
        | succ k =>
          have ih := drop_wordsOn s n (wordEnd s i) (by omega) k (by rw [e] at h; simpa using h)
          simp only [e, List.getElem_cons_succ, List.drop_succ_cons]
          exact ih
    · rw [wordsOn_past s i hlt] at h; simp at h
/-- The words of a part of so many words. -/
theorem part_words (s : ByteArray) (i j : Nat) (hij : i ≤ j) (hj : j < (wordsOn s 0).length) :
    (wordsOn (s.extract (wat (wordsOn s 0) i).1 (wat (wordsOn s 0) j).2) 0).map (fun x => ((wat (wordsOn s 0) i).1 + x.1, (wat (wordsOn s 0) i).1 + x.2)) = ((wordsOn s 0).drop i).take (j + 1 - i) := by
  have hlt := wat_le s i j hij hj
  have hbd := wat_bd s j hj
  have h1 := (drop_wordsOn s s.size 0 (by omega) i (by omega)).1
  have h2 := (drop_wordsOn s s.size 0 (by omega) j hj).2
  rw [← wat_get _ _ (by omega)] at h1
  rw [← wat_get _ _ hj] at h2
  have hmem := wordsOn_mem s s.size 0 (by omega) _ (List.getElem_mem hj)
  rw [← wat_get _ _ hj] at hmem
  have hstop : (wat (wordsOn s 0) j).2 < s.size → partB (byteAt s (wat (wordsOn s 0) j).2) = false := fun h => by
    have r := wordEnd_end s (wat (wordsOn s 0) j).1 (by omega)
    rw [← hmem.2.2.2] at r
    exact r.stop h
  have h3 := part_wordsOn s (wat (wordsOn s 0) i).1 (wat (wordsOn s 0) j).2 (by omega) hbd.2 hstop _ 0 (Nat.le_refl _) (by omega)
  rw [Nat.add_zero, h1, h2] at h3
  have hlen : ((wordsOn (s.extract (wat (wordsOn s 0) i).1 (wat (wordsOn s 0) j).2) 0).map (fun x => ((wat (wordsOn s 0) i).1 + x.1, (wat (wordsOn s 0) i).1 + x.2))).length = j + 1 - i := by
    have := congrArg List.length h3
    rw [List.length_append, List.length_drop, List.length_drop] at this
    omega
  rw [h3, List.take_append_of_le_length (by omega), List.take_of_length_le (by omega)]
theorem part_len (s : ByteArray) (i j : Nat) (hij : i ≤ j) (hj : j < (wordsOn s 0).length) : (wordsOn (s.extract (wat (wordsOn s 0) i).1 (wat (wordsOn s 0) j).2) 0).length = j + 1 - i := by
  have := congrArg List.length (part_words s i j hij hj)
  rw [List.length_map, List.length_take, List.length_drop] at this
  omega
/-- What the words of a part are looked for as. -/
theorem part_terms (s : ByteArray) (i j : Nat) (hij : i ≤ j) (hj : j < (wordsOn s 0).length) :
    termsL (s.extract (wat (wordsOn s 0) i).1 (wat (wordsOn s 0) j).2) = ((termsL s).drop i).take (j + 1 - i) := by
  have h := part_words s i j hij hj
  have hbd := wat_bd s j hj
  unfold termsL
  rw [← List.map_drop, ← List.map_take, ← h, List.map_map]
  refine List.map_congr_left fun x hx => ?_
  have hm := wordsOn_mem _ _ 0 (Nat.le_refl _) x hx
  have hz := part_size s (wat (wordsOn s 0) i).1 (wat (wordsOn s 0) j).2 hbd.2
  have hlt := wat_le s i j hij hj
  show stemA _ = stemA (s.extract _ _)
  rw [part_part _ _ _ _ _ (by omega)]
theorem part_term (s : ByteArray) (i j k : Nat) (hij : i ≤ j) (hj : j < (wordsOn s 0).length) (hk : k < j + 1 - i) :
    (termsL (s.extract (wat (wordsOn s 0) i).1 (wat (wordsOn s 0) j).2)).getD k ⟨#[]⟩ = stemA (s.extract (wat (wordsOn s 0) (i + k)).1 (wat (wordsOn s 0) (i + k)).2) := by
  rw [part_terms s i j hij hj, List.getD_eq_getElem?_getD, List.getElem?_take_of_lt hk, List.getElem?_drop]
  unfold termsL
  rw [List.getElem?_map, List.getElem?_eq_getElem (by omega), wat_get _ _ (by omega)]
  rfl
end Go.Proofs.Ytmgpfhknkekeiaa
