/- TermOk, FoldMore, DrawTerm, FoldWords, WordsMore, PartWords, TermFacts, MtWord: in one text. -/
import Derived.Test.YtjkimadnopeakaaGreatDoorWords
import Derived.Test.YtjkimadnopeakaaGreatDoorMg25FnExactMeets
import Derived.Test.YtjkimadnopeakaaGreatDoorStem
import Derived.Test.YtjkimadnopeakaaGreatDoorMg0FnExactMeets
import Derived.Test.YtjkimadnopeakaaGreatDoorFold
import Derived.Test.YtjkimadnopeakaaGreatDoorDrA
import Derived.Test.YtjkimadnopeakaaGreatDoorTermsS
import Derived.Test.YtjkimadnopeakaaGreatDoorWordsPlain
import Derived.Test.YtjkimadnopeakaaGreatDoorMtS
/- Contracts of isWord, impl.TermOk, spec.TermOk. -/
namespace Go.Proofs.YtjkimadnopeakaaGreatDoor
open Go.RowKit

def termOkB (s : ByteArray) : Bool := isWordB s && ((stemA s).toList == s.toList)

theorem extract_size_le (s : ByteArray) (a b : Nat) (h : b ≤ s.size) : (s.extract a b).size = b - a := by simp; omega
theorem extract_allT (s : ByteArray) : s.extract 0 s.size = s := by
  apply ByteArray.ext
  simp
/-- One word, and nothing else. -/
theorem one_word (s : ByteArray) : isWordB s = true ↔ ∃ a b, wordsOn s 0 = [(a, b)] ∧ (s.extract a b).toList = s.toList := by
  constructor
  · intro h
    simp only [isWordB, Bool.and_eq_true, Bool.not_eq_true', beq_iff_eq] at h
    have hp := isEmpty_size s h.1
    have he : wordEnd s 0 = s.size := by omega
    refine ⟨0, s.size, ?_, by rw [extract_allT]⟩
    rw [wordsOn_word s 0 hp (by omega), he, wordsOn_past s _ (Nat.lt_irrefl _)]
  · rintro ⟨a, b, h1, h2⟩
    have hm := wordsOn_mem s _ 0 (Nat.le_refl _) (a, b) (by rw [h1]; simp)
    obtain ⟨_, hab, hb, he⟩ := hm
    have hl : (s.extract a b).size = s.size := by rw [← toList_size, ← toList_size, h2]
    rw [extract_size_le s a b hb] at hl
    have ha : a = 0 := by simp only at hab hb; omega
    have hb' : b = s.size := by simp only at hab hb; omega
    subst ha
    simp only at he
    simp only [isWordB, Bool.and_eq_true, Bool.not_eq_true', beq_iff_eq]
    refine ⟨?_, by omega⟩
    cases hs : s.toList with
    | nil => have := toList_size s; rw [hs] at this; simp at this hab; omega
    | cons x y => rfl

end Go.Proofs.YtjkimadnopeakaaGreatDoor

/- Fold of what is folded, and of two texts side by side. -/
namespace Go.Proofs.YtjkimadnopeakaaGreatDoor
open Go.RowKit
theorem lowU_low (b : UInt8) : lowU (lowU b) = lowU b := by
  have := b.toNat_lt
  unfold lowU
  by_cases h : 65 ≤ b.toNat ∧ b.toNat ≤ 90
  · rw [if_pos h, if_neg]
    rw [UInt8.toNat_add]; simp; omega
  · rw [if_neg h, if_neg h]
theorem foldA_fold (s : ByteArray) : foldA (foldA s) = foldA s := by
  unfold foldA
  simp [lowU_low]
theorem foldA_append (s t : ByteArray) : foldA (s ++ t) = foldA s ++ foldA t := by
  apply ByteArray.ext
  rw [ByteArray.data_append]
  simp [foldA, ByteArray.data_append]
theorem fold_size (s : ByteArray) : (foldA s).size = s.size := by
  show (s.data.toList.map lowU).toArray.size = _
  simp
theorem fold_byte (s : ByteArray) (k : Nat) (h : k < s.size) : byteAt (foldA s) k = lowI (byteAt s k) := by
  rw [byteAt_eq s k h, ← lowU_I]
  unfold byteAt foldA
  have h' : k < s.data.toList.length := by simpa using h
  simp only [List.getD_eq_getElem?_getD, List.getElem?_map, List.getElem?_eq_getElem h', Option.map_some, Option.getD_some]
  rfl
theorem lowI_small (n : Int) : ¬ (65 ≤ lowI n ∧ lowI n ≤ 90) := by
  by_cases h : 65 ≤ n ∧ n ≤ 90
  · rw [lowI_yes n h.1 h.2]; omega
  · rw [lowI_no n (by omega)]; omega
end Go.Proofs.YtjkimadnopeakaaGreatDoor

/- The draw of a word, and what Stem is of what is folded. -/
namespace Go.Proofs.YtjkimadnopeakaaGreatDoor
open Go.RowKit
theorem stemA_size (s : ByteArray) : (stemA s).size ≤ 12 := by
  have h1 : (cut12 (foldA s)).size ≤ 12 := by
    unfold cut12
    split
    · simp; omega
    · omega
  have h2 : (withoutA (cut12 (foldA s))).size ≤ 12 := by
    unfold withoutA
    split
    · simp; omega
    · exact h1
  unfold stemA
  split
  · exact Nat.zero_le _
  · exact h2
theorem stemA_fold (s : ByteArray) : stemA (foldA s) = stemA s := by unfold stemA; rw [foldA_fold]

end Go.Proofs.YtjkimadnopeakaaGreatDoor

/- Words of what is folded stand where they stood, and are looked for as the same. -/
namespace Go.Proofs.YtjkimadnopeakaaGreatDoor
open Go.RowKit

theorem partB_lowI (n : Int) (h0 : 0 ≤ n) (h1 : n ≤ 255) : partB (lowI n) = partB n := by
  by_cases h : 65 ≤ n ∧ n ≤ 90
  · rw [lowI_yes n h.1 h.2, Bool.eq_iff_iff]
    simp [partB, smallB, greatB, figureB]
    omega
  · rw [lowI_no n (by omega)]
theorem fold_part (s : ByteArray) (k : Nat) (h : k < s.size) : partB (byteAt (foldA s) k) = partB (byteAt s k) := by
  rw [fold_byte s k h]
  exact partB_lowI _ (byteAt_bd s k).1 (byteAt_bd s k).2
theorem fold_wordEnd (s : ByteArray) (i : Nat) (h : i ≤ s.size) : wordEnd (foldA s) i = wordEnd s i := by
  have hz := fold_size s
  have r := wordEnd_end s i h
  refine (wordEnd_end (foldA s) i (by omega)).uniq ⟨r.le, by rw [hz]; exact r.size, fun x h1 h2 => ?_, fun hlt => ?_⟩
  · rw [fold_part s x (by have := r.size; omega)]; exact r.all x h1 h2
  · rw [fold_part s _ (by omega)]; exact r.stop (by omega)
theorem fold_wordsOn (s : ByteArray) : ∀ n i, s.size - i ≤ n → wordsOn (foldA s) i = wordsOn s i
  | 0, i, h => by rw [wordsOn_past s i (by omega), wordsOn_past _ i (by rw [fold_size]; omega)]
  | n + 1, i, h => by
    have hz := fold_size s
    by_cases hlt : i < s.size
    · have he := fold_wordEnd s i (by omega)
      have r := wordEnd_end s i (by omega)
      by_cases hw : wordEnd s i = i
      · rw [wordsOn_none s i hlt hw, wordsOn_none (foldA s) i (by omega) (by omega), fold_wordsOn s n (i + 1) (by omega)]
      · rw [wordsOn_word s i hlt hw, wordsOn_word (foldA s) i (by omega) (by omega), he, fold_wordsOn s n _ (by have := r.le; omega)]
    · rw [wordsOn_past s i hlt, wordsOn_past _ i (by omega)]
theorem fold_extract (s : ByteArray) (a b : Nat) : (foldA s).extract a b = foldA (s.extract a b) := by
  apply ByteArray.ext
  rw [ByteArray.data_extract]
  simp only [foldA, ByteArray.data_extract]
  apply Array.ext'
  simp [List.map_drop, List.map_take]
theorem fold_termsL (s : ByteArray) : termsL (foldA s) = termsL s := by
  unfold termsL
  rw [fold_wordsOn s s.size 0 (by omega)]
  refine List.map_congr_left fun x _ => ?_
  rw [fold_extract, stemA_fold]
end Go.Proofs.YtjkimadnopeakaaGreatDoor

/- Plain mathematics of words: they stand one behind the other. -/
namespace Go.Proofs.YtjkimadnopeakaaGreatDoor
open Go.RowKit

theorem wordsOn_first (s : ByteArray) : ∀ n i, s.size - i ≤ n → ∀ x ∈ wordsOn s i, i ≤ x.1 := fun n i h x hx => (wordsOn_mem s n i h x hx).1
theorem wordsOn_apart (s : ByteArray) : ∀ n i, s.size - i ≤ n → ∀ k (h : k + 1 < (wordsOn s i).length), ((wordsOn s i)[k]'(by omega)).2 < (wordsOn s i)[k + 1].1
  | 0, i, hn, k, h => by rw [wordsOn_past s i (by omega)] at h; simp at h
  | n + 1, i, hn, k, h => by
    by_cases hlt : i < s.size
    · have r := wordEnd_end s i (by omega)
      by_cases he : wordEnd s i = i
      · have e := wordsOn_none s i hlt he
        have ih := wordsOn_apart s n (i + 1) (by omega) k (by rw [← e]; exact h)
        simp only [e]
        exact ih
      · have e : wordsOn s i = (i, wordEnd s i) :: wordsOn s (wordEnd s i + 1) := by rw [wordsOn_word s i hlt he, wordsOn_skip s _ r.size (wordEnd_again s i (by omega))]
        have hle := r.le
        cases k with
        | zero =>
          simp only [e, List.getElem_cons_zero, List.getElem_cons_succ]
          have hl : 0 < (wordsOn s (wordEnd s i + 1)).length := by rw [e] at h; simpa using h
          have := wordsOn_first s n (wordEnd s i + 1) (by omega) _ (List.getElem_mem (l := wordsOn s (wordEnd s i + 1)) hl)
          omega
        | succ k =>
          have ih := wordsOn_apart s n (wordEnd s i + 1) (by omega) k (by rw [e] at h; simpa using h)
          simp only [e, List.getElem_cons_succ]
          exact ih
    · rw [wordsOn_past s i hlt] at h; simp at h

/-- The word at a place. -/
def wat (l : List (Nat × Nat)) (i : Nat) : Nat × Nat := l.getD i (0, 0)
theorem wat_get (l : List (Nat × Nat)) (k : Nat) (h : k < l.length) : wat l k = l[k] := by unfold wat; rw [List.getD_eq_getElem?_getD, List.getElem?_eq_getElem h]; rfl
theorem wat_bd (s : ByteArray) (k : Nat) (h : k < (wordsOn s 0).length) : (wat (wordsOn s 0) k).1 < (wat (wordsOn s 0) k).2 ∧ (wat (wordsOn s 0) k).2 ≤ s.size := by
  rw [wat_get _ _ h]
  have := wordsOn_mem s s.size 0 (by omega) _ (List.getElem_mem h)
  exact ⟨this.2.1, this.2.2.1⟩
theorem wat_le (s : ByteArray) (i j : Nat) (hij : i ≤ j) (h : j < (wordsOn s 0).length) : (wat (wordsOn s 0) i).1 < (wat (wordsOn s 0) j).2 := by
  obtain ⟨d, rfl⟩ : ∃ d, j = i + d := ⟨j - i, by omega⟩
  clear hij
  induction d with
  | zero => exact (wat_bd s i h).1
  | succ d ih =>
    have h1 := ih (by omega)
    have h2 := wordsOn_apart s s.size 0 (by omega) (i + d) (by omega)
    have h3 := (wat_bd s (i + d + 1) h).1
    rw [← wat_get _ _ (by omega), ← wat_get _ _ (by omega)] at h2
    rw [← Nat.add_assoc]
    omega
end Go.Proofs.YtjkimadnopeakaaGreatDoor

/- Words of a part of a text, from the beginning of one word to the end of another: plain mathematics. -/
namespace Go.Proofs.YtjkimadnopeakaaGreatDoor
open Go.RowKit

theorem part_size (s : ByteArray) (f t : Nat) (h : t ≤ s.size) : (s.extract f t).size = t - f := by rw [ByteArray.size_extract]; omega
theorem part_toList (s : ByteArray) (f t : Nat) : (s.extract f t).data.toList = (s.data.toList.drop f).take (t - f) := by
  rw [ByteArray.data_extract, Array.toList_extract, List.extract_eq_take_drop]
theorem part_byte (s : ByteArray) (f t j : Nat) (h : j < t - f) : byteAt (s.extract f t) j = byteAt s (f + j) := by
  unfold byteAt
  rw [part_toList, List.getD_eq_getElem?_getD, List.getD_eq_getElem?_getD, List.getElem?_take_of_lt h, List.getElem?_drop]
theorem part_part (s : ByteArray) (f t a b : Nat) (h : f + b ≤ t) : (s.extract f t).extract a b = s.extract (f + a) (f + b) := by
  apply ByteArray.ext
  apply Array.ext'
  rw [part_toList, part_toList, part_toList]
  rw [show f + b - (f + a) = b - a from by omega, List.drop_take, List.take_take, List.drop_drop]
  congr 1
  omega
theorem part_wordEnd (s : ByteArray) (f t : Nat) (hft : f ≤ t) (ht : t ≤ s.size) (hs : t < s.size → partB (byteAt s t) = false) (i : Nat) (hi : i ≤ t - f) : wordEnd s (f + i) = f + wordEnd (s.extract f t) i := by
  have hz := part_size s f t ht
  have r := wordEnd_end (s.extract f t) i (by omega)
  have hr := r.size
  refine (wordEnd_end s _ (by omega)).uniq ⟨by have := r.le; omega, by omega, fun x h1 h2 => ?_, fun hlt => ?_⟩
  · obtain ⟨y, rfl⟩ : ∃ y, x = f + y := ⟨x - f, by omega⟩
    rw [← part_byte s f t y (by omega)]
    exact r.all y (by omega) (by omega)
  · by_cases e : wordEnd (s.extract f t) i < t - f
    · rw [← part_byte s f t _ e]
      exact r.stop (by omega)
    · rw [show f + wordEnd (s.extract f t) i = t from by omega] at hlt ⊢
      exact hs hlt
theorem part_wordsOn (s : ByteArray) (f t : Nat) (hft : f ≤ t) (ht : t ≤ s.size) (hs : t < s.size → partB (byteAt s t) = false) : ∀ n i, t - f - i ≤ n → i ≤ t - f →
    wordsOn s (f + i) = (wordsOn (s.extract f t) i).map (fun x => (f + x.1, f + x.2)) ++ wordsOn s t
  | n, i, h, hi => by
    have hz := part_size s f t ht
    by_cases hlt : i < t - f
    · match n, h with
      | 0, h => omega
      | n + 1, h =>
        have he := part_wordEnd s f t hft ht hs i hi
        have r := wordEnd_end (s.extract f t) i (by omega)
        by_cases hw : wordEnd (s.extract f t) i = i
        · rw [wordsOn_none _ i (by omega) hw, wordsOn_none s _ (by omega) (by omega), Nat.add_assoc, part_wordsOn s f t hft ht hs n (i + 1) (by omega) (by omega)]
        · rw [wordsOn_word _ i (by omega) hw, wordsOn_word s _ (by omega) (by omega), he, part_wordsOn s f t hft ht hs n _ (by have := r.le; omega) (by have := r.size; omega)]
          rfl
    · have e : f + i = t := by omega
      rw [e, wordsOn_past (s.extract f t) i (by omega)]
      rfl
/-- From the beginning of a word on, and from its end on. -/
theorem drop_wordsOn (s : ByteArray) : ∀ n i, s.size - i ≤ n → ∀ k (h : k < (wordsOn s i).length), wordsOn s (wordsOn s i)[k].1 = (wordsOn s i).drop k ∧ wordsOn s (wordsOn s i)[k].2 = (wordsOn s i).drop (k + 1)
  | 0, i, hn, k, h => by rw [wordsOn_past s i (by omega)] at h; simp at h
  | n + 1, i, hn, k, h => by
    by_cases hlt : i < s.size
    · have r := wordEnd_end s i (by omega)
      by_cases he : wordEnd s i = i
      · have e := wordsOn_none s i hlt he
        have ih := drop_wordsOn s n (i + 1) (by omega) k (by rw [← e]; exact h)
        simp only [e]
        exact ih
      · have e := wordsOn_word s i hlt he
        have hle := r.le
        cases k with
        | zero =>
          simp only [e, List.getElem_cons_zero, List.drop_zero, List.drop_succ_cons]
          exact ⟨trivial, trivial⟩
        | succ k =>
          have ih := drop_wordsOn s n (wordEnd s i) (by omega) k (by rw [e] at h; simpa using h)
          simp only [e, List.getElem_cons_succ, List.drop_succ_cons]
          exact ih
    · rw [wordsOn_past s i hlt] at h; simp at h
/-- The words of a part of so many words. -/
theorem part_words (s : ByteArray) (i j : Nat) (hij : i ≤ j) (hj : j < (wordsOn s 0).length) :
    (wordsOn (s.extract (wat (wordsOn s 0) i).1 (wat (wordsOn s 0) j).2) 0).map (fun x => ((wat (wordsOn s 0) i).1 + x.1, (wat (wordsOn s 0) i).1 + x.2)) = ((wordsOn s 0).drop i).take (j + 1 - i) := by
  have hlt := wat_le s i j hij hj
  have hbd := wat_bd s j hj
  have h1 := (drop_wordsOn s s.size 0 (by omega) i (by omega)).1
  have h2 := (drop_wordsOn s s.size 0 (by omega) j hj).2
  rw [← wat_get _ _ (by omega)] at h1
  rw [← wat_get _ _ hj] at h2
  have hmem := wordsOn_mem s s.size 0 (by omega) _ (List.getElem_mem hj)
  rw [← wat_get _ _ hj] at hmem
  have hstop : (wat (wordsOn s 0) j).2 < s.size → partB (byteAt s (wat (wordsOn s 0) j).2) = false := fun h => by
    have r := wordEnd_end s (wat (wordsOn s 0) j).1 (by omega)
    rw [← hmem.2.2.2] at r
    exact r.stop h
  have h3 := part_wordsOn s (wat (wordsOn s 0) i).1 (wat (wordsOn s 0) j).2 (by omega) hbd.2 hstop _ 0 (Nat.le_refl _) (by omega)
  rw [Nat.add_zero, h1, h2] at h3
  have hlen : ((wordsOn (s.extract (wat (wordsOn s 0) i).1 (wat (wordsOn s 0) j).2) 0).map (fun x => ((wat (wordsOn s 0) i).1 + x.1, (wat (wordsOn s 0) i).1 + x.2))).length = j + 1 - i := by
    have := congrArg List.length h3
    rw [List.length_append, List.length_drop, List.length_drop] at this
    omega
  rw [h3, List.take_append_of_le_length (by omega), List.take_of_length_le (by omega)]
theorem part_len (s : ByteArray) (i j : Nat) (hij : i ≤ j) (hj : j < (wordsOn s 0).length) : (wordsOn (s.extract (wat (wordsOn s 0) i).1 (wat (wordsOn s 0) j).2) 0).length = j + 1 - i := by
  have := congrArg List.length (part_words s i j hij hj)
  rw [List.length_map, List.length_take, List.length_drop] at this
  omega
/-- What the words of a part are looked for as. -/
theorem part_terms (s : ByteArray) (i j : Nat) (hij : i ≤ j) (hj : j < (wordsOn s 0).length) :
    termsL (s.extract (wat (wordsOn s 0) i).1 (wat (wordsOn s 0) j).2) = ((termsL s).drop i).take (j + 1 - i) := by
  have h := part_words s i j hij hj
  have hbd := wat_bd s j hj
  unfold termsL
  rw [← List.map_drop, ← List.map_take, ← h, List.map_map]
  refine List.map_congr_left fun x hx => ?_
  have hm := wordsOn_mem _ _ 0 (Nat.le_refl _) x hx
  have hz := part_size s (wat (wordsOn s 0) i).1 (wat (wordsOn s 0) j).2 hbd.2
  have hlt := wat_le s i j hij hj
  show stemA _ = stemA (s.extract _ _)
  rw [part_part _ _ _ _ _ (by omega)]
theorem part_term (s : ByteArray) (i j k : Nat) (hij : i ≤ j) (hj : j < (wordsOn s 0).length) (hk : k < j + 1 - i) :
    (termsL (s.extract (wat (wordsOn s 0) i).1 (wat (wordsOn s 0) j).2)).getD k ⟨#[]⟩ = stemA (s.extract (wat (wordsOn s 0) (i + k)).1 (wat (wordsOn s 0) (i + k)).2) := by
  rw [part_terms s i j hij hj, List.getD_eq_getElem?_getD, List.getElem?_take_of_lt hk, List.getElem?_drop]
  unfold termsL
  rw [List.getElem?_map, List.getElem?_eq_getElem (by omega), wat_get _ _ (by omega)]
  rfl
end Go.Proofs.YtjkimadnopeakaaGreatDoor

/- What a word is looked for as is a word that is looked for as itself: plain mathematics. -/
namespace Go.Proofs.YtjkimadnopeakaaGreatDoor
open Go.RowKit
set_option linter.unusedVariables false

theorem size_nonempty (x : ByteArray) (h : 0 < x.size) : x.toList.isEmpty = false := by
  cases e : x.toList with
  | nil => have := toList_size x; rw [e] at this; simp at this; omega
  | cons a l => rfl
theorem word_of (x : ByteArray) (hp : 0 < x.size) (h : ∀ i, i < x.size → partB (byteAt x i) = true) : isWordB x = true := by
  have r := wordEnd_end x 0 (Nat.zero_le _)
  have he : wordEnd x 0 = x.size := by
    rcases Nat.lt_or_ge (wordEnd x 0) x.size with hl | hl
    · have := r.stop hl
      rw [h _ hl] at this
      cases this
    · have := r.size; omega
  unfold isWordB
  rw [he, size_nonempty x hp]
  simp
theorem extract_zero2 (s : ByteArray) (n m : Nat) (h : n ≤ m) : (s.extract 0 m).extract 0 n = s.extract 0 n := by
  apply ByteArray.ext
  apply Array.ext'
  rw [part_toList, part_toList, part_toList]
  simp [List.take_take, Nat.min_eq_left h]
theorem cut_extract (s : ByteArray) : cut12 s = s.extract 0 (min 12 s.size) := by
  unfold cut12
  split
  · rw [Nat.min_eq_left (by omega)]
  · rw [Nat.min_eq_right (by omega), extract_allT]
theorem stem_parts (s : ByteArray) : ∃ n, n ≤ 12 ∧ n ≤ s.size ∧ withoutA (cut12 (foldA s)) = (foldA s).extract 0 n ∧ plurB ((foldA s).extract 0 n) = false := by
  have hz := fold_size s
  rw [cut_extract]
  obtain ⟨m, hm⟩ : ∃ m, min 12 (foldA s).size = m := ⟨_, rfl⟩
  rw [hm]
  have hm1 : m ≤ 12 := by omega
  have hm2 : m ≤ (foldA s).size := by omega
  generalize foldA s = F at *
  have hc := part_size F 0 m hm2
  cases hp : plurB (F.extract 0 m) with
  | false => exact ⟨m, hm1, by omega, by unfold withoutA; rw [hp]; rfl, hp⟩
  | true =>
    refine ⟨m - 1, by omega, by omega, ?_, ?_⟩
    · unfold withoutA
      rw [if_pos hp, hc, Nat.sub_zero, extract_zero2 _ _ _ (by omega)]
    · unfold plurB at hp ⊢
      rw [hc] at hp
      simp only [Bool.and_eq_true, decide_eq_true_iff, bne_iff_ne, ne_eq] at hp
      obtain ⟨⟨h1, _⟩, h3⟩ := hp
      have hs := part_size F 0 (m - 1) (by omega)
      rw [hs]
      have hb : byteAt (F.extract 0 (m - 1)) (m - 1 - 0 - 1) ≠ 115 := by
        rw [part_byte F 0 (m - 1) _ (by omega)]
        rw [part_byte F 0 m _ (by omega)] at h3
        rwa [show 0 + (m - 1 - 0 - 1) = 0 + (m - 0 - 2) by omega]
      rw [show (byteAt (F.extract 0 (m - 1)) (m - 1 - 0 - 1) == 115) = false from beq_eq_false_iff_ne.2 hb]
      simp
theorem stem_term (s : ByteArray) (h : ∀ i, i < s.size → partB (byteAt s i) = true) (hn : (stemA s).toList.isEmpty = false) : termOkB (stemA s) = true := by
  obtain ⟨n, h12, hns, hW, hP⟩ := stem_parts s
  have hz := fold_size s
  have hst : stemA s = if fillB ((foldA s).extract 0 n) then ⟨#[]⟩ else (foldA s).extract 0 n := by unfold stemA; rw [hW]
  have hf : fillB ((foldA s).extract 0 n) = false := by
    cases hb : fillB ((foldA s).extract 0 n) with
    | false => rfl
    | true =>
      rw [hst, if_pos hb] at hn
      rw [ByteArray.toList_eq] at hn
      exact absurd hn (by decide)
  rw [hf] at hst
  have hst2 : stemA s = (foldA s).extract 0 n := hst
  have hsz := part_size (foldA s) 0 n (by omega)
  have hsame : stemA ((foldA s).extract 0 n) = (foldA s).extract 0 n := by
    have e1 : foldA ((foldA s).extract 0 n) = (foldA s).extract 0 n := by rw [← fold_extract, foldA_fold]
    have e2 : cut12 ((foldA s).extract 0 n) = (foldA s).extract 0 n := by unfold cut12; rw [if_neg (by omega)]
    have e3 : withoutA ((foldA s).extract 0 n) = (foldA s).extract 0 n := by unfold withoutA; rw [hP]; rfl
    unfold stemA
    rw [e1, e2, e3, hf]
    rfl
  unfold termOkB
  rw [hst2, hsame]
  rw [hst2] at hn
  have hp : 0 < ((foldA s).extract 0 n).size := by
    rw [← toList_size]
    cases e : ((foldA s).extract 0 n).toList with
    | nil => rw [e] at hn; cases hn
    | cons a l => simp
  rw [word_of _ hp (fun i hi => ?_)]
  · simp
  · rw [part_byte (foldA s) 0 n i (by omega), fold_part s (0 + i) (by omega)]
    exact h _ (by omega)
end Go.Proofs.YtjkimadnopeakaaGreatDoor

/- A document meets each of its words: plain mathematics. -/
namespace Go.Proofs.YtjkimadnopeakaaGreatDoor
open Go.RowKit
set_option linter.unusedVariables false

theorem term_of {t x : ByteArray} (hx : x ∈ termsL t) (hn : x.toList.isEmpty = false) : termOkB x = true ∧ x.size ≤ 12 ∧ foldA x = x := by
  unfold termsL at hx
  obtain ⟨ab, hab, rfl⟩ := List.mem_map.1 hx
  obtain ⟨_, h1, h2, h3⟩ := wordsOn_mem t t.size 0 (by omega) ab hab
  have hw : ∀ i, i < (t.extract ab.1 ab.2).size → partB (byteAt (t.extract ab.1 ab.2) i) = true := fun i hi => by
    rw [part_size t _ _ h2] at hi
    rw [part_byte t _ _ i hi]
    exact (wordEnd_part t ab.1 (ab.1 + i) (by omega) (by omega) (by omega)).2
  refine ⟨stem_term _ hw hn, stemA_size _, ?_⟩
  obtain ⟨n, _, hns, hW, _⟩ := stem_parts (t.extract ab.1 ab.2)
  have hz := fold_size (t.extract ab.1 ab.2)
  unfold stemA at hn ⊢
  split
  · rename_i hb
    rw [if_pos hb, ByteArray.toList_eq] at hn
    exact absurd hn (by decide)
  · rw [hW, ← fold_extract, foldA_fold]
/-- A word that is looked for as itself has that one word alone. -/
theorem term_alone {x : ByteArray} (h : termOkB x = true) : termsL x = [x] ∧ isWordB x = true ∧ 0 < x.size := by
  unfold termOkB at h
  rw [Bool.and_eq_true] at h
  have hw := h.1
  unfold isWordB at hw
  simp only [Bool.and_eq_true, Bool.not_eq_true', beq_iff_eq] at hw
  have hp := isEmpty_size x hw.1
  have he : wordEnd x 0 = x.size := by omega
  have h1 : wordsOn x 0 = [(0, x.size)] := by rw [wordsOn_word x 0 hp (by omega), he, wordsOn_past x _ (Nat.lt_irrefl _)]
  refine ⟨?_, h.1, hp⟩
  unfold termsL
  rw [h1]
  have h2 : stemA x = x := by
    have := h.2
    rw [toList_eq_iff, decide_eq_true_iff] at this
    exact this
  simp [h2]
/-- How a word begins. -/
theorem begin_of {x : ByteArray} (h : termOkB x = true) (hf : foldA x = x) : isWordB (x.extract 0 1) = true ∧ (x.extract 0 1).size = 1 ∧ foldEq (x.extract 0 1) = true ∧ preB (x.extract 0 1) x = true := by
  obtain ⟨_, hw, hp⟩ := term_alone h
  have hs := part_size x 0 1 (by omega)
  have hs1 : (x.extract 0 1).size = 1 := by omega
  unfold isWordB at hw
  simp only [Bool.and_eq_true, Bool.not_eq_true', beq_iff_eq] at hw
  have he : wordEnd x 0 = x.size := by omega
  refine ⟨word_of _ (by omega) fun i hi => ?_, hs1, ?_, ?_⟩
  · rw [part_byte x 0 1 i (by omega)]
    exact (wordEnd_part x 0 (0 + i) (Nat.zero_le _) (Nat.zero_le _) (by omega)).2
  · unfold foldEq
    rw [← fold_extract, hf]
    simp
  · unfold preB
    rw [hs1, decide_eq_true (show 1 ≤ x.size by omega)]
    simp
theorem fits_leaf {fs : List Fld} {k : Int} {f t : ByteArray} {lo hi : Int} (h1 : fieldsB fs = true) (h2 : leafB k f t lo hi = true) (h3 : fitOneS fs k f = true) : fitsB fs 0 k f t lo hi [] = true := by
  unfold fitsB queryB
  have e : qformB 4 (.mk k f t lo hi []) = leafB k f t lo hi := if_pos rfl
  have e2 : fitS fs 0 (.mk k f t lo hi []) = fitOneS fs k f := rfl
  rw [h1, e, h2, e2, h3]
  rfl
theorem meet_leaf {fs : List Fld} {key : ByteArray} {cs : List Cel} {k : Int} {f t : ByteArray} {lo hi : Int} (h0 : docOkB fs key cs = true) (h1 : fitsB fs 0 k f t lo hi [] = true) (h2 : leafM fs key cs k f t lo hi = true) : meetB fs key cs 0 k f t lo hi [] = true := by
  unfold meetB
  have e : meetsQ fs key cs 0 (.mk k f t lo hi []) = leafM fs key cs k f t lo hi := rfl
  rw [h0, h1, e, h2]
  rfl
theorem run_one {ts : List ByteArray} {x : ByteArray} (hx : x ∈ ts) : runB ts [x] = true := by
  obtain ⟨i, hi, rfl⟩ := List.getElem_of_mem hx
  refine runB_yes (k := i) (by simp; omega) ?_
  unfold runAt
  rw [decide_eq_true_iff]
  show (ts.drop i).take 1 = [ts[i]]
  rw [List.drop_eq_getElem_cons hi]
  rfl
theorem beg_one {ts : List ByteArray} {x b : ByteArray} (hx : x ∈ ts) (h : preB b x = true) : someBeg ts b = true := by
  obtain ⟨i, hi, rfl⟩ := List.getElem_of_mem hx
  refine anyTo_yes (f := fun i => preB b (ts.getD i ⟨#[]⟩)) hi ?_
  rw [List.getD_eq_getElem?_getD, List.getElem?_eq_getElem hi]
  exact h
theorem docOk_split {fs : List Fld} {key : ByteArray} {cs : List Cel} (h : docOkB fs key cs = true) : fieldsB fs = true ∧ ∀ i, i < cs.length → nameI (cat cs i).name = true := by
  unfold docOkB formB at h
  simp only [Bool.and_eq_true, decide_eq_true_eq] at h
  refine ⟨h.1.1, fun i hi => ?_⟩
  have := (allTo_iff _ _).1 h.1.2.2 i hi
  unfold celOk at this
  simp only [Bool.and_eq_true] at this
  exact this.1.2
/-- All that the law asks of a word. -/
theorem word_meets {fs : List Fld} {key : ByteArray} {cs : List Cel} {i : Nat} {x : ByteArray} (hd : docOkB fs key cs = true) (hi : i < cs.length) (hk : kindB fs (cat cs i).name 1 = true) (hx : x ∈ termsL (cat cs i).text) (hn : x.toList.isEmpty = false) :
    meetB fs key cs 0 2 ⟨#[]⟩ x 0 0 [] = true ∧ meetB fs key cs 0 2 (cat cs i).name x 0 0 [] = true ∧ meetB fs key cs 0 4 ⟨#[]⟩ (x.extract 0 1) 0 0 [] = true := by
  obtain ⟨h1, h12, hf⟩ := term_of hx hn
  obtain ⟨h2, hw, hp⟩ := term_alone h1
  obtain ⟨b1, b2, b3, b4⟩ := begin_of h1 hf
  obtain ⟨hfs, hnm⟩ := docOk_split hd
  have hst : stemA x = x := by
    unfold termOkB at h1
    rw [Bool.and_eq_true] at h1
    have := h1.2
    rw [toList_eq_iff, decide_eq_true_iff] at this
    exact this
  have hwant : wantB 2 x = true := by
    unfold wantB
    rw [if_pos rfl, hw, hst, hn, decide_eq_true (show (x.size : Int) ≤ 60 by omega)]
    rfl
  have hwant4 : wantB 4 (x.extract 0 1) = true := by
    unfold wantB
    rw [if_neg (by decide), if_pos rfl, b1, b3, b2]
    rfl
  have hno : noB ⟨#[]⟩ = true := by
    unfold noB
    rw [ByteArray.toList_eq]
    rfl
  have hz : zeroB 0 0 = true := by decide
  have hc : ∀ f P, (noB f || f.toList == (cat cs i).name.toList) = true → P (termsL (cat cs i).text) = true → anyTo (cellM fs cs f P) cs.length = true := fun f P g1 g2 => by
    refine anyTo_yes hi ?_
    unfold cellM
    rw [hk, g1, g2]
    rfl
  have hrun : runB (termsL (cat cs i).text) (termsL x) = true := by rw [h2]; exact run_one hx
  refine ⟨meet_leaf hd (fits_leaf hfs ?_ ?_) ?_, meet_leaf hd (fits_leaf hfs ?_ ?_) ?_, meet_leaf hd (fits_leaf hfs ?_ ?_) ?_⟩
  · unfold leafB
    rw [if_neg (by decide), if_pos (by decide), hno, hwant, hz]
    rfl
  · unfold fitOneS
    rw [if_pos (by decide), hno]
    rfl
  · rw [leafM_2 _ _ _ _ _ _ _ _ (.inl rfl)]
    exact hc _ _ (by rw [hno]; rfl) hrun
  · unfold leafB
    rw [if_neg (by decide), if_pos (by decide), hnm i hi, hwant, hz, Bool.or_true]
    rfl
  · unfold fitOneS
    rw [if_pos (by decide), hk, Bool.or_true]
  · rw [leafM_2 _ _ _ _ _ _ _ _ (.inl rfl)]
    exact hc _ _ (by simp) hrun
  · unfold leafB
    rw [if_neg (by decide), if_pos (by decide), hno, hwant4, hz]
    rfl
  · unfold fitOneS
    rw [if_pos (by decide), hno]
    rfl
  · rw [leafM_4]
    exact hc _ _ (by rw [hno]; rfl) (beg_one hx b4)
theorem all_meets {fs : List Fld} {key : ByteArray} {cs : List Cel} (hd : docOkB fs key cs = true) : meetB fs key cs 0 1 ⟨#[]⟩ ⟨#[]⟩ 0 0 [] = true := by
  obtain ⟨hfs, _⟩ := docOk_split hd
  have hno : noB ⟨#[]⟩ = true := by
    unfold noB
    rw [ByteArray.toList_eq]
    rfl
  refine meet_leaf hd (fits_leaf hfs ?_ ?_) (if_pos rfl)
  · unfold leafB
    rw [if_pos rfl, hno]
    rfl
  · unfold fitOneS
    rw [if_neg (by decide), if_neg (by decide), if_neg (by decide)]
end Go.Proofs.YtjkimadnopeakaaGreatDoor
