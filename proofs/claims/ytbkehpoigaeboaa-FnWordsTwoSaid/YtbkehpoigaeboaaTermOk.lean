/- Contracts of isWord, impl.TermOk, spec.TermOk. -/
import Derived.Test.YtbkehpoigaeboaaWords
import Derived.Test.YtbkehpoigaeboaaStem
import Derived.Test.YtbkehpoigaeboaaNameOk
namespace Go.Proofs.Ytbkehpoigaeboaa
open Go.RowKit

def isWordB (s : ByteArray) : Bool := !s.toList.isEmpty && ((wordEnd s 0 : Int) == (s.size : Int))
def termOkB (s : ByteArray) : Bool := isWordB s && ((stemA s).toList == s.toList)

theorem isWord_any (s : ByteArray) (w : World) (hs : s.size ≤ 1099511627776) :
    Calls Try.prog 51 #[.string s] w fun e w' => e = .returned (.bool (isWordB s)) ∧ w = w' := by
  cases he : s.toList.isEmpty
  all_goals
    go_enter Try.func51, Try.ntmps51
    go_wp2_with (go_at_call 63; refine (wordEnd_any s 0 _ hs (Nat.zero_le _)).mono ?_; rintro e _ ⟨rfl, rfl⟩)
    go_ret
    exact ⟨ret_bool (by simp [isWordB, he]), rfl⟩

theorem termOkI_any (s : ByteArray) (w : World) (hs : s.size ≤ 1099511627776) :
    Calls Try.prog 26 #[.string s] w fun e w' => e = .returned (.bool (termOkB s)) ∧ Below w.heap.size w w' := by
  cases he : isWordB s
  · go_enter Try.func26, Try.ntmps26
    go_wp2_with (go_at_call 51; refine (isWord_any s _ hs).mono ?_; rintro e _ ⟨rfl, rfl⟩)
    go_ret
    exact ⟨ret_bool (by simp [termOkB, he]), Below.refl _ _⟩
  · go_enter Try.func26, Try.ntmps26
    go_wp2_with (first | (go_at_call 51; refine (isWord_any s _ hs).mono ?_; rintro e _ ⟨rfl, rfl⟩) | (go_at_call 25; refine (stemI_any s _ (by unfold maxLen; omega)).mono ?_; rintro e w1 ⟨rfl, hb1⟩))
    go_ret
    exact ⟨ret_bool (by simp [termOkB, he]), by assumption⟩

theorem extract_size_le (s : ByteArray) (a b : Nat) (h : b ≤ s.size) : (s.extract a b).size = b - a := by simp; omega
theorem extract_all (s : ByteArray) : s.extract 0 s.size = s := by
  apply ByteArray.ext
  simp
/-- One word, and nothing else. -/
theorem one_word (s : ByteArray) : isWordB s = true ↔ ∃ a b, wordsOn s 0 = [(a, b)] ∧ (s.extract a b).toList = s.toList := by
  constructor
  · intro h
    simp only [isWordB, Bool.and_eq_true, Bool.not_eq_true', beq_iff_eq] at h
    have hp := isEmpty_size s h.1
    have he : wordEnd s 0 = s.size := by omega
    refine ⟨0, s.size, ?_, by rw [extract_all]⟩
    rw [wordsOn_word s 0 hp (by omega), he, wordsOn_past s _ (Nat.lt_irrefl _)]
  · rintro ⟨a, b, h1, h2⟩
    have hm := wordsOn_mem s _ 0 (Nat.le_refl _) (a, b) (by rw [h1]; simp)
    obtain ⟨_, hab, hb, he⟩ := hm
    have hl : (s.extract a b).size = s.size := by rw [← toList_size, ← toList_size, h2]
    rw [extract_size_le s a b hb] at hl
    have ha : a = 0 := by simp only at hab hb; omega
    have hb' : b = s.size := by simp only at hab hb; omega
    subst ha
    simp only at he
    simp only [isWordB, Bool.and_eq_true, Bool.not_eq_true', beq_iff_eq]
    refine ⟨?_, by omega⟩
    cases hs : s.toList with
    | nil => have := toList_size s; rw [hs] at this; simp at this hab; omega
    | cons x y => rfl

set_option maxHeartbeats 400000 in
theorem termOkS_any (s : ByteArray) (w : World) (hs : s.size ≤ 1048576) :
    Calls Try.prog 28 #[.string s] w fun e w' => e = .returned (.bool (termOkB s)) ∧ Below w.heap.size w w' := by
  have HO : Hid (isWordB s = true ↔ ∃ a b, wordsOn s 0 = [(a, b)] ∧ (s.extract a b).toList = s.toList) := one_word s
  go_enter Try.func28, Try.ntmps28
  go_wp2_with fail
  refine (wordsS_any s _ hs).mono ?_
  rintro e w1 ⟨g, cap, rfl, hown, hb1⟩
  generalize hL : wordsOn s 0 = L at *
  have HL : Hid (wordsOn s 0 = L) := hL
  clear hL
  by_cases hn : L.length = 1
  · obtain ⟨⟨a, b⟩, rfl⟩ : ∃ x, L = [x] := List.length_eq_one_iff.1 hn
    have hc := hown.cellAt 0 (by simp)
    have hc0 : w1.cell? ⟨g, 0, none⟩ = some (.string (s.extract a b)) := by rw [hc]; rfl
    clear hown hn hc
    simp only [List.length_singleton]
    cases ht : ((s.extract a b).toList == s.toList)
    · have hb0 : isWordB s = false := by
        rw [← Bool.not_eq_true, HO.out]
        rintro ⟨a', b', h1, h2⟩
        simp at h1
        obtain ⟨rfl, rfl⟩ := h1
        rw [h2] at ht
        simp at ht
      have HB : Hid (termOkB s = false) := by unfold Hid; simp [termOkB, hb0]
      clear hb0
      go_wp2
      go_ret
      exact ⟨ret_bool (by rw [HB.out]), hb1⟩
    · have hb0 : isWordB s = true := HO.out.2 ⟨a, b, rfl, by simpa using ht⟩
      have HB : Hid (termOkB s = ((stemA s).toList == s.toList)) := by unfold Hid; simp [termOkB, hb0]
      clear hb0
      go_wp2_with (go_at_call 27; refine (stemS_any s _ (by omega)).mono ?_; rintro e w2 ⟨rfl, hb2⟩)
      go_ret
      exact ⟨ret_bool (by rw [HB.out]), hb1.trans ((by assumption : Below w1.heap.size w1 _).mono hb1.size)⟩
  · have hn' : ((L.length : Int) == 1) = false := by simp; omega
    have hb0 : isWordB s = false := by
      rw [← Bool.not_eq_true, HO.out]
      rintro ⟨a', b', h1, h2⟩
      rw [h1] at hn
      simp at hn
    have HB : Hid (termOkB s = false) := by unfold Hid; simp [termOkB, hb0]
    clear hb0
    go_wp2
    go_ret
    exact ⟨ret_bool (by rw [HB.out]), hb1⟩
end Go.Proofs.Ytbkehpoigaeboaa
