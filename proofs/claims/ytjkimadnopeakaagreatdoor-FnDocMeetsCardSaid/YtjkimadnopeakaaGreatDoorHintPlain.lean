/- Texts that may be hints: plain mathematics. -/
import Derived.Test.YtjkimadnopeakaaGreatDoorWtx
import Derived.Test.YtjkimadnopeakaaGreatDoorMg25FnExactMeets
import Derived.Test.YtjkimadnopeakaaGreatDoorMg0FnExactMeets
import Derived.Test.YtjkimadnopeakaaGreatDoorFold
namespace Go.Proofs.YtjkimadnopeakaaGreatDoor
open Go.RowKit
set_option linter.unusedVariables false

def foldEq (s : ByteArray) : Bool := (foldA s).toList == s.toList
def hparts (s : ByteArray) : List ByteArray := cuts 32 (manyB 32 s) s
/-- As the program tells it. -/
def hintTI (s : ByteArray) : Bool := decide ((s.size : Int) ≤ 60) && foldEq s && (hparts s).all isWordB
/-- The words so far, a blank between. -/
def jw (s : ByteArray) : Nat → ByteArray
  | 0 => ⟨#[]⟩
  | k + 1 => (if k = 0 then jw s k else jw s k ++ ⟨#[32]⟩) ++ pat (wtx s) k
def l5W (s : ByteArray) : Nat := if ((jw s (wtx s).length).toList == s.toList) = true then (wtx s).length else 0
/-- As the model tells it. -/
def hintTS (s : ByteArray) : Bool := textB s && decide (0 < l5W s) && foldEq s

def joinB (ps : List ByteArray) : ByteArray := ⟨(Lib.join (ps.map (·.data.toList)) [32]).toArray⟩
theorem joinB_one (p : ByteArray) : joinB [p] = p := by
  apply ba_ext
  simp [joinB, Lib.join, List.intercalate]
theorem joinB_cons (p q : ByteArray) (r : List ByteArray) : joinB (p :: q :: r) = p ++ ((⟨#[32]⟩ : ByteArray) ++ joinB (q :: r)) := by
  apply ba_ext
  rw [ByteArray.data_append, ByteArray.data_append, Array.toList_append, Array.toList_append]
  show Lib.join ((p :: q :: r).map (·.data.toList)) [32] = _
  rw [List.map_cons, join_cons _ _ _ (by simp)]
  simp [joinB]
theorem word_parts {p : ByteArray} (h : isWordB p = true) : 0 < p.size ∧ (∀ j, j < p.size → partB (byteAt p j) = true) ∧ wtx p = [p] := by
  simp only [isWordB, Bool.and_eq_true, beq_iff_eq] at h
  have hw : wordEnd p 0 = p.size := by omega
  have h0 : 0 < p.size := by
    rcases Nat.eq_zero_or_pos p.size with e | e
    · have e2 : p.toList = [] := by rw [ByteArray.toList_eq]; exact List.eq_nil_of_length_eq_zero (by simpa using e)
      rw [e2] at h
      cases h.1
    · exact e
  refine ⟨h0, fun j hj => (wordEnd_part p 0 j (Nat.zero_le _) (Nat.zero_le _) (by omega)).2, ?_⟩
  unfold wtx
  rw [wordsOn_word p 0 h0 (by omega), hw, wordsOn_past p p.size (Nat.lt_irrefl _)]
  show [p.extract 0 p.size] = [p]
  rw [show p.extract 0 p.size = p from by apply ba_ext; rw [ByteArray.data_extract, Array.toList_extract, List.extract_eq_take_drop, List.drop_zero, List.take_of_length_le (by simp)]]
theorem wtx_join : ∀ ps : List ByteArray, 0 < ps.length → (∀ p ∈ ps, isWordB p = true) → wtx (joinB ps) = ps
  | [], h, _ => absurd h (by simp)
  | [p], _, h => by rw [joinB_one]; exact (word_parts (h p (by simp))).2.2
  | p :: q :: r, _, h => by
    have ih := wtx_join (q :: r) (by simp) (fun x hx => h x (List.mem_cons_of_mem _ hx))
    have hb : byteAt ((⟨#[32]⟩ : ByteArray) ++ joinB (q :: r)) 0 = 32 := by rw [byteAt_append_left _ _ _ (by decide)]; rfl
    rw [joinB_cons, wtx_first (by rw [ByteArray.size_append]; show 0 < 1 + _; omega) (by rw [hb]; decide), wtx_one (c := ⟨#[32]⟩) rfl (by decide), ih, (word_parts (h p (by simp))).2.2]
    rfl
theorem joinB_bytes : ∀ ps : List ByteArray, ∀ b ∈ (joinB ps).data.toList, b = 32 ∨ ∃ p ∈ ps, b ∈ p.data.toList
  | [], b, hb => by simp [joinB, Lib.join, List.intercalate] at hb
  | [p], b, hb => by rw [joinB_one] at hb; exact .inr ⟨p, by simp, hb⟩
  | p :: q :: r, b, hb => by
    rw [joinB_cons, ByteArray.data_append, ByteArray.data_append, Array.toList_append, Array.toList_append] at hb
    rcases List.mem_append.1 hb with h | h
    · exact .inr ⟨p, by simp, h⟩
    · rcases List.mem_append.1 h with h | h
      · exact .inl (by simpa using h)
      · rcases joinB_bytes (q :: r) b h with h | ⟨x, hx, h⟩
        · exact .inl h
        · exact .inr ⟨x, List.mem_cons_of_mem _ hx, h⟩
theorem jw_join (s : ByteArray) : ∀ k, k ≤ (wtx s).length → 0 < k → jw s k = joinB ((wtx s).take k)
  | 0, _, h => absurd h (by simp)
  | k + 1, hk, _ => by
    have e1 : (wtx s).take (k + 1) = (wtx s).take k ++ [pat (wtx s) k] := by rw [List.take_add_one, List.getElem?_eq_getElem (by omega), pat_get _ _ (by omega)]; rfl
    by_cases h0 : k = 0
    · subst h0
      rw [e1, List.take_zero, List.nil_append, joinB_one]
      show (⟨#[]⟩ : ByteArray) ++ _ = _
      exact append_nilL rfl _
    · rw [jw, if_neg h0, jw_join s k (by omega) (by omega), e1]
      apply ba_ext
      rw [ByteArray.data_append, ByteArray.data_append, Array.toList_append, Array.toList_append]
      show Lib.join (((wtx s).take k).map (·.data.toList)) [32] ++ [32] ++ _ = Lib.join (((wtx s).take k ++ [pat (wtx s) k]).map (·.data.toList)) [32]
      rw [List.map_append]
      obtain ⟨y, ys, hy⟩ : ∃ y ys, ((wtx s).take k).map (·.data.toList) = y :: ys := by
        cases hg : ((wtx s).take k).map (·.data.toList) with
        | nil => have := congrArg List.length hg; rw [List.length_map, List.length_take, List.length_nil] at this; omega
        | cons y ys => exact ⟨y, ys, rfl⟩
      rw [hy, List.map_cons, List.map_nil, join_snoc]
theorem wtx_mem (s : ByteArray) : ∀ p ∈ wtx s, isWordB p = true := fun p hp => by
  obtain ⟨x, hx, rfl⟩ := List.mem_map.1 hp
  obtain ⟨h1, h2, h3, h4⟩ := wordsOn_mem s s.size 0 (by omega) x hx
  have hz : (s.extract x.1 x.2).size = x.2 - x.1 := by rw [ByteArray.size_extract]; omega
  have r := wordEnd_end (s.extract x.1 x.2) 0 (Nat.zero_le _)
  have hall : ∀ j, j < x.2 - x.1 → partB (byteAt (s.extract x.1 x.2) j) = true := fun j hj => by
    rw [byte_cut s h3 (by omega)]
    exact (wordEnd_part s x.1 (x.1 + j) (by omega) (by omega) (by omega)).2
  have hw : wordEnd (s.extract x.1 x.2) 0 = (s.extract x.1 x.2).size := by
    have hs := r.size
    rcases Nat.lt_or_ge (wordEnd (s.extract x.1 x.2) 0) (s.extract x.1 x.2).size with h | h
    · have := r.stop h
      rw [hall _ (by omega)] at this
      cases this
    · omega
  unfold isWordB
  rw [hw]
  have hne : (s.extract x.1 x.2).toList.isEmpty = false := by
    cases e : (s.extract x.1 x.2).toList with
    | nil => have := congrArg List.length e; rw [ByteArray.toList_eq] at this; simp at this; omega
    | cons a b => rfl
  rw [hne]
  simp
theorem parts_same (s : ByteArray) : ((hparts s).all isWordB = true) ↔ 0 < l5W s := by
  constructor
  · intro h
    have hj : s = joinB (hparts s) := by apply ba_ext; exact (join_cuts 32 (manyB 32 s) s).symm
    have hp : 0 < (hparts s).length := cuts_pos 32 _ s
    have hw : wtx s = hparts s := by
      conv => lhs; rw [hj]
      exact wtx_join _ hp (fun p hp => List.all_eq_true.1 h p hp)
    unfold l5W
    have e : jw s (wtx s).length = s := by
      rw [jw_join s _ (Nat.le_refl _) (by rw [hw]; exact hp), List.take_of_length_le (Nat.le_refl _), hw]
      exact hj.symm
    rw [e, if_pos (by simp), hw]
    exact hp
  · intro h
    unfold l5W at h
    split at h
    · rename_i he
      have e : jw s (wtx s).length = s := by
        rw [beq_iff_eq, ByteArray.toList_eq, ByteArray.toList_eq] at he
        exact ba_ext he
      rw [jw_join s _ (Nat.le_refl _) h, List.take_of_length_le (Nat.le_refl _)] at e
      have hc : cuts 32 (s.size + (wtx s).length) s = wtx s := by
        refine cuts_join 32 (wtx s) _ s h (by omega) (fun p hp j hj => ?_) (by
          have h2 : (joinB (wtx s)).data.toList = s.data.toList := congrArg (fun x : ByteArray => x.data.toList) e
          exact h2.symm)
        have := (word_parts (wtx_mem s p hp)).2.1 j hj
        intro e2
        rw [e2] at this
        cases this
      have hm := manyB_le 32 s
      have : hparts s = wtx s := by unfold hparts; rw [← cuts_enough 32 (s.size + (wtx s).length) s (by omega), hc]
      rw [this]
      exact List.all_eq_true.2 fun p hp => wtx_mem s p hp
    · omega
theorem text_seen {s : ByteArray} (h : (hparts s).all isWordB = true) : textB s = decide ((s.size : Int) ≤ 60) := by
  have hj : s = joinB (hparts s) := by apply ba_ext; exact (join_cuts 32 (manyB 32 s) s).symm
  unfold textB
  rw [show allTo (seenB s) s.size = true from (allTo_iff _ _).2 fun j hj2 => by
    have h' : j < s.data.toList.length := by simpa using hj2
    have hb : byteAt s j = ((s.data.toList[j]).toNat : Int) := by unfold byteAt; rw [List.getD_eq_getElem?_getD, List.getElem?_eq_getElem h']; rfl
    have hm : s.data.toList[j] ∈ (joinB (hparts s)).data.toList := by rw [← hj]; exact List.getElem_mem h'
    unfold seenB
    rcases joinB_bytes _ _ hm with e | ⟨p, hp, hbp⟩
    · rw [hb, e]; rfl
    · obtain ⟨i, hi, he⟩ := List.getElem_of_mem hbp
      have hpb := (word_parts (List.all_eq_true.1 h p hp)).2.1 i (by simpa using hi)
      have e3 : byteAt p i = byteAt s j := by unfold byteAt; rw [List.getD_eq_getElem?_getD, List.getElem?_eq_getElem hi, he, List.getD_eq_getElem?_getD, List.getElem?_eq_getElem h']
      rw [e3] at hpb
      simp only [partB, smallB, greatB, figureB, Bool.or_eq_true, Bool.and_eq_true, decide_eq_true_eq] at hpb ⊢
      omega, Bool.and_true]
theorem hint_same (s : ByteArray) : hintTS s = hintTI s := by
  unfold hintTS hintTI
  cases hp : (hparts s).all isWordB with
  | true =>
    have h5 := (parts_same s).1 hp
    rw [text_seen hp]
    simp [h5]
  | false =>
    have h5 : ¬ 0 < l5W s := fun h => by rw [(parts_same s).2 h] at hp; cases hp
    simp [h5]
theorem jw_size (s : ByteArray) (hz : s.size ≤ 100) : ∀ k, k ≤ (wtx s).length → (jw s k).size ≤ 101 * k
  | 0, _ => Nat.le_refl _
  | k + 1, hk => by
    have ih := jw_size s hz k (by omega)
    have hp : (pat (wtx s) k).size ≤ 100 := by
      rw [pat_get _ _ (by omega)]
      obtain ⟨x, hx, e⟩ := List.mem_map.1 (List.getElem_mem (l := wtx s) (n := k) (by omega))
      rw [← e, ByteArray.size_extract]
      omega
    rw [jw, ByteArray.size_append]
    split
    · omega
    · rw [ByteArray.size_append]
      show (jw s k).size + 1 + _ ≤ _
      omega
end Go.Proofs.YtjkimadnopeakaaGreatDoor
