/- What DocNum and DocTags say of a document. -/
import Derived.Test.YtjkimadnopeakaaGreatDoorDocTags
namespace Go.Proofs.YtjkimadnopeakaaGreatDoor
open Go.RowKit
set_option linter.unusedVariables false

theorem nameI_size {x : ByteArray} (h : nameI x = true) : x.size ≤ 8 := by
  unfold nameI at h
  simp only [Bool.and_eq_true, decide_eq_true_eq] at h
  have := h.1.1.2
  omega
theorem numV_bd {s : ByteArray} (h : numT s = true) : -999999999 ≤ numV s ∧ numV s ≤ 999999999 := by
  unfold numT at h
  unfold numV
  cases e : below0 s with
  | true =>
    rw [e] at h
    simp only [if_true, Bool.and_eq_true] at h ⊢
    have := numB_bd _ h.1
    omega
  | false =>
    rw [e] at h
    have := numB_bd _ h
    simp only [Bool.false_eq_true, if_false]
    omega
theorem toldK_pos {fs : List Fld} {key : ByteArray} {cs : List Cel} {n : ByteArray} (h : toldK fs key cs n ≠ 0) : docOkB fs key cs = true ∧ docH cs n = true ∧ (fat fs (fidx fs n)).kind = toldK fs key cs n := by
  unfold toldK at h ⊢
  cases e : (docOkB fs key cs && docH cs n) with
  | false => rw [e] at h; exact absurd rfl h
  | true =>
    simp only [Bool.and_eq_true] at e
    exact ⟨e.1, e.2, rfl⟩
theorem told_two {fs : List Fld} {key : ByteArray} {cs : List Cel} {n : ByteArray} (h : toldK fs key cs n = 2) : docOkB fs key cs = true ∧ docH cs n = true ∧ numT (docT cs n) = true := by
  obtain ⟨h1, h2, h3⟩ := toldK_pos (fs := fs) (key := key) (cs := cs) (n := n) (by rw [h]; decide)
  exact ⟨h1, h2, ok_num h1 h2 (by unfold kindB; rw [h3, h]; rfl)⟩
theorem dhas_no {fs : List Fld} {key : ByteArray} {cs : List Cel} {n : ByteArray} (h : dhas fs key cs n = false) : dnum fs key cs n = 0 := by
  by_cases hk : toldK fs key cs n = 2
  · have := (told_two hk).2.2
    unfold dhas at h
    rw [hk, cisn_two, this] at h
    cases h
  · exact cnum_not hk _
theorem dhas_yes {fs : List Fld} {key : ByteArray} {cs : List Cel} {n : ByteArray} (h : dhas fs key cs n = true) : docOkB fs key cs = true ∧ docH cs n = true ∧ dtags fs key cs n = [] ∧ -999999999 ≤ dnum fs key cs n ∧ dnum fs key cs n ≤ 999999999 := by
  by_cases hk : toldK fs key cs n = 2
  · obtain ⟨h1, h2, h3⟩ := told_two hk
    refine ⟨h1, h2, by unfold dtags; rw [if_neg (by rw [hk]; decide)], ?_⟩
    unfold dnum
    rw [hk, cnum_two, numW_yes h3]
    exact numV_bd h3
  · unfold dhas at h
    rw [cisn_not hk] at h
    cases h
theorem dtags_facts (fs : List Fld) (key : ByteArray) (cs : List Cel) (n : ByteArray) : (∀ x ∈ dtags fs key cs n, nameI x = true) ∧ AscB (dtags fs key cs n) ∧ (dtags fs key cs n).length ≤ 4 ∧ (dtags fs key cs n ≠ [] → docOkB fs key cs = true ∧ dhas fs key cs n = false) := by
  by_cases hk : toldK fs key cs n = 3
  · obtain ⟨h1, h2, h3⟩ := toldK_pos (fs := fs) (key := key) (cs := cs) (n := n) (by rw [hk]; decide)
    obtain ⟨h4, h5⟩ := dtags_yes h1 h2 (n := n) (by unfold kindB; rw [h3, hk]; rfl)
    obtain ⟨h6, h7⟩ := fold_add (tparts (docT cs n)) [] List.Pairwise.nil
    have h8 := Lib.compact_length_le (sortedL (docT cs n))
    rw [sortedL_len] at h8
    have h9 : (dtags fs key cs n).length = (Lib.compact (sortedL (docT cs n))).length := by
      unfold dtags
      rw [if_pos hk]
      exact List.length_map _
    unfold tagT at h5
    simp only [Bool.and_eq_true, List.all_eq_true, decide_eq_true_eq] at h5
    refine ⟨fun x hx => ?_, by rw [← h4]; exact h6, by omega, fun _ => ⟨h1, by unfold dhas; rw [hk]; rfl⟩⟩
    rw [← h4] at hx
    have := (h7 x).1 hx
    simp at this
    exact h5.1 x this
  · have : dtags fs key cs n = [] := by unfold dtags; rw [if_neg hk]
    rw [this]
    exact ⟨(fun x hx => by cases hx), List.Pairwise.nil, Nat.zero_le _, fun h => absurd rfl h⟩
theorem asc_less {ss : List ByteArray} (h : AscB ss) (i : Nat) (hi : i + 1 < ss.length) : Op.bytesLess (ss.getD i ⟨#[]⟩).toList (ss.getD (i + 1) ⟨#[]⟩).toList = true := by
  rw [less_toL, List.getD_eq_getElem?_getD, List.getD_eq_getElem?_getD, List.getElem?_eq_getElem hi, List.getElem?_eq_getElem (by omega)]
  exact decide_eq_true (List.pairwise_iff_getElem.1 h i (i + 1) (by omega) hi (by omega))
end Go.Proofs.YtjkimadnopeakaaGreatDoor
