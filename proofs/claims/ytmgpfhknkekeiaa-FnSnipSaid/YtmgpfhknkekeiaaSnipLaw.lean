/- What holds of a part of a text. -/
import Derived.Test.YtmgpfhknkekeiaaSnipS
import Derived.Test.YtmgpfhknkekeiaaPartWords
import Derived.Test.YtmgpfhknkekeiaaSdLooked
import Derived.Test.YtmgpfhknkekeiaaStrSd
namespace Go.Proofs.Ytmgpfhknkekeiaa
open Go.RowKit

theorem bm_max (c : Nat → Nat) (k : Nat) : (∀ i, i < k → (c i : Int) ≤ (bm c k).2) ∧ (1 ≤ k → (bm c k).2 = (c (bm c k).1 : Int)) := by
  induction k with
  | zero => exact ⟨fun i hi => by omega, fun h => by omega⟩
  | succ k ih =>
    by_cases h1 : (bm c k).2 < (c k : Int)
    · rw [bm_yes c k h1]
      refine ⟨fun i hi => ?_, fun _ => rfl⟩
      show (c i : Int) ≤ (c k : Int)
      by_cases e : i = k
      · subst e; omega
      · have := ih.1 i (by omega); omega
    · rw [bm_no c k h1]
      refine ⟨fun i hi => ?_, fun _ => ?_⟩
      · by_cases e : i = k
        · subst e; omega
        · exact ih.1 i (by omega)
      · by_cases e : k = 0
        · subst e; simp [bm] at h1; omega
        · exact ih.2 (by omega)
/-- The part that begins at a word. -/
def partA (s : ByteArray) (m i : Nat) : ByteArray := s.extract (wat (wordsOn s 0) i).1 (wat (wordsOn s 0) (i + m - 1)).2
theorem partA_size (s : ByteArray) (m i : Nat) : (partA s m i).size ≤ s.size := by unfold partA; rw [ByteArray.size_extract]; omega
theorem partA_terms (s : ByteArray) (m i : Nat) (hm : 1 ≤ m) (hi : i + m ≤ (wordsOn s 0).length) : (termsL (partA s m i)).length = m := by
  rw [termsL_len]
  unfold partA
  rw [part_len s i (i + m - 1) (by omega) (by omega)]
  omega
theorem partA_look (s : ByteArray) (ts : List ByteArray) (m i : Nat) (hm : 1 ≤ m) (hi : i + m ≤ (wordsOn s 0).length) : cntF (lookB ts (termsL (partA s m i))) (termsL (partA s m i)).length = cAt s ts m i := by
  rw [partA_terms s m i hm hi]
  unfold cAt
  have : ∀ k, k ≤ m → cntF (lookB ts (termsL (partA s m i))) k = cntF (fun k => sAt s ts (i + k)) k := by
    intro k
    induction k with
    | zero => intro _; rfl
    | succ k ih =>
      intro hk
      have hh : lookB ts (termsL (partA s m i)) k = sAt s ts (i + k) := by
        unfold lookB sAt soughtB tat partA
        rw [part_term s i (i + m - 1) k (by omega) (by omega) (by omega)]
      have e1 : cntF (lookB ts (termsL (partA s m i))) (k + 1) = cntF (lookB ts (termsL (partA s m i))) k + (if lookB ts (termsL (partA s m i)) k then 1 else 0) := rfl
      have e2 : cntF (fun k => sAt s ts (i + k)) (k + 1) = cntF (fun k => sAt s ts (i + k)) k + (if sAt s ts (i + k) then 1 else 0) := rfl
      rw [e1, e2, ih (by omega), hh]
  exact this m (Nat.le_refl _)
theorem snipA_part (s : ByteArray) (ts : List ByteArray) (m : Nat) : snipA s ts m = partA s m (bestAt s ts m) := rfl
theorem partA_full (s : ByteArray) (h : 0 < (wordsOn s 0).length) : termsL (partA s (wordsOn s 0).length 0) = termsL s := by
  unfold partA
  rw [part_terms s 0 _ (Nat.zero_le _) (by omega), List.drop_zero, List.take_of_length_le (by rw [termsL_len]; omega)]
theorem best_full (s : ByteArray) (ts : List ByteArray) : bestAt s ts (wordsOn s 0).length = 0 := by
  unfold bestAt
  have := bm_lt (cAt s ts (wordsOn s 0).length) ((wordsOn s 0).length - (wordsOn s 0).length + 1) (by omega)
  omega
theorem partA_some (s : ByteArray) (m i : Nat) (hm : 1 ≤ m) (hi : i + m ≤ (wordsOn s 0).length) : (partA s m i).toList.isEmpty = false := by
  have h1 := wat_le s i (i + m - 1) (by omega) (by omega)
  have h2 := wat_bd s (i + m - 1) (by omega)
  have hz : (partA s m i).size = (wat (wordsOn s 0) (i + m - 1)).2 - (wat (wordsOn s 0) i).1 := part_size _ _ _ h2.2
  have hl : (partA s m i).toList.length = (partA s m i).size := by rw [ByteArray.toList_eq]; simp
  cases h : (partA s m i).toList with
  | nil => rw [h] at hl; simp at hl; omega
  | cons a b => rfl
theorem terms2_any (s : ByteArray) (L : List ByteArray) (hL : termsL s = L) (w : World) (hs : s.size ≤ 1048576) :
    Calls Try.prog 21 #[.string s] w fun e w' => ∃ p c, e = .returned (.slice p L.length c) ∧ StrRow w' p L ∧ Below w.heap.size w w' := by
  refine (termsI_any s w hs).mono ?_
  rintro e w' ⟨v, rfl, ho, _, hb⟩
  rw [termCells_eq, ← termsL_len, hL] at ho
  obtain ⟨p, c, rfl, hr⟩ := owns_strRow ho
  exact ⟨p, c, rfl, hr, hb⟩
end Go.Proofs.Ytmgpfhknkekeiaa
