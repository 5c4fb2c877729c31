/- The words of a text, as texts: plain mathematics. -/
import Derived.Test.YtjkimadnopeakaaGreatDoorTwoWords
namespace Go.Proofs.YtjkimadnopeakaaGreatDoor
open Go.RowKit
set_option linter.unusedVariables false

theorem take_cut (l : List UInt8) {d f : Nat} (h : d ≤ f) : l.take f = l.take d ++ (l.drop d).take (f - d) := by
  have := List.take_add (l := l) (i := d) (j := f - d)
  rw [show d + (f - d) = f by omega] at this
  exact this
/-- The words of a text. -/
def wtx (s : ByteArray) : List ByteArray := (wordsOn s 0).map fun x => s.extract x.1 x.2
theorem wtx_nil {s : ByteArray} (h : s.size = 0) : wtx s = [] := by unfold wtx; rw [wordsOn_past s 0 (by omega)]; rfl
theorem append_nilL {a : ByteArray} (h : a.size = 0) (b : ByteArray) : a ++ b = b := by
  apply ByteArray.ext
  rw [ByteArray.data_append]
  have : a.data = #[] := by apply Array.eq_empty_of_size_eq_zero; exact h
  rw [this]
  simp
theorem append_nilR {b : ByteArray} (h : b.size = 0) (a : ByteArray) : a ++ b = a := by
  apply ByteArray.ext
  rw [ByteArray.data_append]
  have : b.data = #[] := by apply Array.eq_empty_of_size_eq_zero; exact h
  rw [this]
  simp
theorem wordEnd_non {s : ByteArray} {i : Nat} (h : i < s.size) (hb : partB (byteAt s i) = false) : wordEnd s i = i := by
  have r := wordEnd_end s i (by omega)
  by_cases e : wordEnd s i = i
  · exact e
  · have hle := r.le
    have := r.all i (Nat.le_refl _) (by omega)
    rw [hb] at this
    cases this
/-- Behind a sign that is part of no word. -/
theorem wtx_first {a b : ByteArray} (hb : 0 < b.size) (hn : partB (byteAt b 0) = false) : wtx (a ++ b) = wtx a ++ wtx b := by
  have h1 := left_wordsOn a b hb hn a.size 0 (by omega) (by omega)
  have h2 := right_wordsOn a b b.size 1 (by omega) (by omega)
  have h3 : wordsOn b 0 = wordsOn b 1 := wordsOn_none b 0 hb (wordEnd_non hb hn)
  unfold wtx
  rw [h1, h2, List.map_append, List.map_map, h3]
  congr 1
  · refine List.map_congr_left fun x hx => ?_
    have := wordsOn_mem a a.size 0 (by omega) x hx
    exact left_extract a b x.1 x.2 this.2.2.1
  · refine List.map_congr_left fun x hx => ?_
    exact right_extract a b x.1 x.2
theorem wtx_one {c : ByteArray} (h : c.size = 1) (hn : partB (byteAt c 0) = false) (b : ByteArray) : wtx (c ++ b) = wtx b := by
  have hz : (c ++ b).size = c.size + b.size := ByteArray.size_append
  have hc0 : byteAt (c ++ b) 0 = byteAt c 0 := byteAt_append_left c b 0 (by omega)
  have h1 : wordsOn (c ++ b) 0 = wordsOn (c ++ b) 1 := wordsOn_none _ 0 (by omega) (wordEnd_non (by omega) (by rw [hc0]; exact hn))
  have h2 := right_wordsOn c b b.size 0 (by omega) (by omega)
  rw [h] at h2
  unfold wtx
  rw [h1, h2, List.map_map]
  refine List.map_congr_left fun x hx => ?_
  have := right_extract c b x.1 x.2
  rw [h] at this
  exact this
theorem wtx_sing {c : ByteArray} (h : c.size = 1) (hn : partB (byteAt c 0) = false) : wtx c = [] := by
  have := wtx_one h hn ⟨#[]⟩
  rw [append_nilR (b := ⟨#[]⟩) rfl] at this
  rw [this]
  exact wtx_nil rfl
theorem split_last (a : ByteArray) (h : 0 < a.size) : ∃ a' c : ByteArray, a = a' ++ c ∧ c.size = 1 ∧ byteAt c 0 = byteAt a (a.size - 1) := by
  have e : a = a.extract 0 (a.size - 1) ++ a.extract (a.size - 1) a.size := by
    apply ByteArray.ext
    apply Array.ext'
    rw [ByteArray.data_append, Array.toList_append, ByteArray.data_extract, ByteArray.data_extract, Array.toList_extract, Array.toList_extract, List.extract_eq_take_drop, List.extract_eq_take_drop, List.drop_zero, Nat.sub_zero, List.take_of_length_le (l := a.data.toList.drop _) (by simp), List.take_append_drop]
  have hz : (a.extract 0 (a.size - 1)).size = a.size - 1 := by rw [ByteArray.size_extract]; omega
  refine ⟨_, _, e, by rw [ByteArray.size_extract]; omega, ?_⟩
  have := byteAt_append_right (a.extract 0 (a.size - 1)) (a.extract (a.size - 1) a.size) 0
  rw [← e, hz, Nat.add_zero] at this
  exact this.symm
theorem wtx_last {a : ByteArray} (ha : 0 < a.size) (hn : partB (byteAt a (a.size - 1)) = false) (b : ByteArray) : wtx (a ++ b) = wtx a ++ wtx b := by
  obtain ⟨a', c, e, hc, hb⟩ := split_last a ha
  rw [← hb] at hn
  have h1 : a ++ b = a' ++ (c ++ b) := by rw [e]; apply ByteArray.ext; simp [ByteArray.data_append]
  have hc0 : byteAt (c ++ b) 0 = byteAt c 0 := byteAt_append_left c b 0 (by omega)
  rw [h1, wtx_first (by rw [ByteArray.size_append]; omega) (by rw [hc0]; exact hn), wtx_one hc hn b]
  congr 1
  rw [e, wtx_first (by omega) hn, wtx_sing hc hn, List.append_nil]
/-- Two texts whose words don't run together. -/
theorem wtx_app {a b : ByteArray} (h : a.size = 0 ∨ b.size = 0 ∨ partB (byteAt b 0) = false ∨ (0 < a.size ∧ partB (byteAt a (a.size - 1)) = false)) : wtx (a ++ b) = wtx a ++ wtx b := by
  by_cases ha : a.size = 0
  · rw [append_nilL ha, wtx_nil ha]; rfl
  by_cases hb : b.size = 0
  · rw [append_nilR hb, wtx_nil hb, List.append_nil]
  rcases h with h | h | h | h
  · exact absurd h ha
  · exact absurd h hb
  · exact wtx_first (by omega) h
  · exact wtx_last h.1 h.2 b
/-- Ahead of a word stands no part of one. -/
theorem word_start (s : ByteArray) : ∀ n i, s.size - i ≤ n → ∀ x ∈ wordsOn s i, x.1 = i ∨ (i < x.1 ∧ partB (byteAt s (x.1 - 1)) = false)
  | 0, i, hn, x, hx => by rw [wordsOn_past s i (by omega)] at hx; cases hx
  | n + 1, i, hn, x, hx => by
    by_cases hlt : i < s.size
    · have r := wordEnd_end s i (by omega)
      by_cases he : wordEnd s i = i
      · rw [wordsOn_none s i hlt he] at hx
        have hs := r.stop (by omega)
        rw [he] at hs
        rcases word_start s n (i + 1) (by omega) x hx with h | ⟨h, hb⟩
        · exact .inr ⟨by omega, by rw [h]; exact hs⟩
        · exact .inr ⟨by omega, hb⟩
      · have hle := r.le
        rw [wordsOn_word s i hlt he] at hx
        rcases List.mem_cons.1 hx with rfl | hx
        · exact .inl rfl
        · have hm := wordsOn_mem s n (wordEnd s i) (by omega) x hx
          rcases word_start s n (wordEnd s i) (by omega) x hx with h | ⟨h, hb⟩
          · have := hm.2.2.2
            rw [h, wordEnd_again s i (by omega)] at this
            omega
          · exact .inr ⟨by omega, hb⟩
    · rw [wordsOn_past s i hlt] at hx; cases hx
theorem ext_app (s : ByteArray) {a b c : Nat} (h1 : a ≤ b) (h2 : b ≤ c) : s.extract a b ++ s.extract b c = s.extract a c := by
  apply ByteArray.ext
  apply Array.ext'
  rw [ByteArray.data_append, Array.toList_append, ByteArray.data_extract, ByteArray.data_extract, ByteArray.data_extract, Array.toList_extract, Array.toList_extract, Array.toList_extract, List.extract_eq_take_drop, List.extract_eq_take_drop, List.extract_eq_take_drop]
  rw [show s.data.toList.drop b = (s.data.toList.drop a).drop (b - a) from by rw [List.drop_drop]; congr 1; omega, show c - b = c - a - (b - a) by omega]
  generalize s.data.toList.drop a = l
  have := take_cut l (d := b - a) (f := c - a) (by omega)
  rw [this]
theorem byte_cut (s : ByteArray) {a b j : Nat} (hb : b ≤ s.size) (h : a + j < b) : byteAt (s.extract a b) j = byteAt s (a + j) := by
  unfold byteAt
  rw [ByteArray.data_extract, Array.toList_extract, List.extract_eq_take_drop, List.getD_eq_getElem?_getD, List.getD_eq_getElem?_getD, List.getElem?_take, if_pos (by omega), List.getElem?_drop]
end Go.Proofs.YtjkimadnopeakaaGreatDoor
