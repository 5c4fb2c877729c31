/- Hints as lists: what is added leaves them in order; twice is both together. -/
import Derived.Test.YtgmfaganaeibkaaDoorHintAddS
namespace Go.Proofs.YtgmfaganaeibkaaDoor
open Go.RowKit
set_option linter.unusedVariables false

theorem less_total {a b : List UInt8} (h : Op.bytesLess a b = false) (hne : a ≠ b) : Op.bytesLess b a = true := by
  rw [bytesLess_lt] at h ⊢
  have h1 : ¬ a < b := of_decide_eq_false h
  apply decide_eq_true
  exact lt_of_le_ne (List.not_lt.1 h1) (fun e => hne e.symm)
theorem less_irrefl (a : List UInt8) : Op.bytesLess a a = false := by
  rw [bytesLess_lt]
  exact decide_eq_false (List.lt_irrefl a)
theorem text_eq {a b : ByteArray} (h : a.toList = b.toList) : a = b := by
  rw [ByteArray.toList_eq, ByteArray.toList_eq] at h
  exact ByteArray.ext (Array.toList_inj.1 h)
theorem hereH_text {hs : List Hn} {t : ByteArray} {k : Nat} (h : hereH hs t k = true) : (hnat hs k).text = t := by
  unfold hereH at h
  rw [Bool.and_eq_true, beq_iff_eq] at h
  exact text_eq h.2
theorem hereH_mk {hs : List Hn} {t : ByteArray} {k : Nat} (h : k < hs.length) (ht : (hnat hs k).text = t) : hereH hs t k = true := by
  unfold hereH
  rw [ht]
  simp [h]
/-- What hints that are ok are. -/
theorem hints_iff {hs : List Hn} : hintsB hs = true ↔ hs.length ≤ 10 ∧ (∀ i, i < hs.length → hintTI (hnat hs i).text = true ∧ hnW (hnat hs i).weight = true) ∧ AscH hs := by
  constructor
  · intro h
    refine ⟨(hints_facts h).1, fun i hi => ?_, hnat_ascending h⟩
    unfold hintsB at h
    simp only [Bool.and_eq_true, decide_eq_true_eq] at h
    have h1 := (allTo_iff _ _).1 h.2 i hi
    unfold hnOk at h1
    simp only [Bool.and_eq_true] at h1
    exact ⟨h1.1.1, h1.1.2⟩
  · rintro ⟨h1, h2, h3⟩
    unfold hintsB
    rw [decide_eq_true h1, Bool.true_and, allTo_iff]
    intro i hi
    unfold hnOk
    obtain ⟨a, b⟩ := h2 i hi
    rw [a, b]
    cases i with
    | zero => rfl
    | succ j =>
      have := h3 j (j + 1) (by omega) hi
      simp [this]
theorem hnat_set {hs : List Hn} {k i : Nat} {y : Hn} (hi : i < hs.length) : hnat (hs.set k y) i = if k = i then y else hnat hs i := by
  rw [hnat_get _ _ (by rw [List.length_set]; exact hi), List.getElem_set, hnat_get _ _ hi]
theorem hnat_left {a b : List Hn} {i : Nat} (h : i < a.length) : hnat (a ++ b) i = hnat a i := by
  rw [hnat_get _ _ (by rw [List.length_append]; omega), hnat_get _ _ h, List.getElem_append_left h]
theorem hnat_right {a b : List Hn} {i : Nat} (h : a.length ≤ i) (h2 : i < a.length + b.length) : hnat (a ++ b) i = hnat b (i - a.length) := by
  rw [hnat_get _ _ (by rw [List.length_append]; omega), hnat_get _ _ (by omega), List.getElem_append_right h]
/-- A row with one more at k. -/
def insAt (hs : List Hn) (k : Nat) (y : Hn) : List Hn := hs.take k ++ [y] ++ hs.drop k
theorem insAt_len {hs : List Hn} {k : Nat} {y : Hn} : (insAt hs k y).length = hs.length + 1 := by
  have e : (hs.take k ++ hs.drop k).length = hs.length := by rw [List.take_append_drop]
  rw [List.length_append] at e
  unfold insAt
  simp only [List.length_append, List.length_singleton]
  omega
theorem insAt_at {hs : List Hn} {k i : Nat} {y : Hn} (hk : k ≤ hs.length) (hi : i < hs.length + 1) : hnat (insAt hs k y) i = if i < k then hnat hs i else if i = k then y else hnat hs (i - 1) := by
  have e1 : (hs.take k).length = k := by rw [List.length_take]; omega
  have e2 : (hs.drop k).length = hs.length - k := by rw [List.length_drop]
  unfold insAt
  split
  · rename_i h
    rw [List.append_assoc, hnat_left (by omega), hnat_get _ _ (by omega), hnat_get _ _ (by omega), List.getElem_take]
  · split
    · rename_i h1 h2
      subst h2
      rw [List.append_assoc, hnat_right (by omega) (by rw [List.length_append, e1, e2]; simp; omega), e1, Nat.sub_self]
      rfl
    · rename_i h1 h2
      rw [hnat_right (by rw [List.length_append, e1]; simp; omega) (by rw [List.length_append, e1, e2]; simp; omega), List.length_append, e1, List.length_singleton, hnat_get _ _ (by rw [e2]; omega), hnat_get _ _ (by omega), List.getElem_drop]
      congr 1
      omega
/-- Hints, one of which counts more, are ok. -/
theorem set_ok {hs : List Hn} {k : Nat} {z : Int} (h : hintsB hs = true) (hz : hnW z = true) : hintsB (hs.set k ⟨(hnat hs k).text, z⟩) = true := by
  obtain ⟨h1, h2, h3⟩ := hints_iff.1 h
  have ht : ∀ i, i < hs.length → (hnat (hs.set k ⟨(hnat hs k).text, z⟩) i).text = (hnat hs i).text := fun i hi => by
    rw [hnat_set hi]
    split
    · rename_i e; subst e; rfl
    · rfl
  refine hints_iff.2 ⟨by rw [List.length_set]; exact h1, fun i hi => ?_, fun i j hij hj => ?_⟩
  · rw [List.length_set] at hi
    refine ⟨by rw [ht i hi]; exact (h2 i hi).1, ?_⟩
    rw [hnat_set hi]
    split
    · exact hz
    · exact (h2 i hi).2
  · rw [List.length_set] at hj
    rw [ht i (by omega), ht j hj]
    exact h3 i j hij hj
/-- A text that is not there stands ahead of all that aren't less. -/
theorem posH_above {hs : List Hn} {t : ByteArray} {k j : Nat} (ha : AscH hs) (hp : PosH hs t k) (hh : hereH hs t k = false) (hkj : k ≤ j) (hj : j < hs.length) : Op.bytesLess t.toList (hnat hs j).text.toList = true := by
  have hk : k < hs.length := by omega
  have h1 := hp.2.2 hk
  unfold ltH at h1
  have h2 : (hnat hs k).text.toList ≠ t.toList := fun e => by
    rw [hereH_mk hk (text_eq e)] at hh
    cases hh
  have h3 := less_total h1 h2
  by_cases e : j = k
  · subst e; exact h3
  · exact less_trans _ _ _ h3 (ha k j (by omega) hj)
theorem ins_ok {hs : List Hn} {t : ByteArray} {x : Int} {k : Nat} (h : hintsB hs = true) (hl : hs.length < 10) (ht : hintTI t = true) (hx : hnW x = true) (hp : PosH hs t k) (hh : hereH hs t k = false) : hintsB (insAt hs k ⟨t, x⟩) = true := by
  obtain ⟨h1, h2, h3⟩ := hints_iff.1 h
  have hkl := hp.1
  refine hints_iff.2 ⟨by rw [insAt_len]; omega, fun i hi => ?_, fun i j hij hj => ?_⟩
  · rw [insAt_len] at hi
    rw [insAt_at hkl hi]
    split
    · exact h2 i (by omega)
    · split
      · exact ⟨ht, hx⟩
      · exact h2 (i - 1) (by omega)
  · rw [insAt_len] at hj
    rw [insAt_at hkl (by omega), insAt_at hkl hj]
    by_cases hik : i < k
    · rw [if_pos hik]
      by_cases hjk : j < k
      · rw [if_pos hjk]; exact h3 i j hij (by omega)
      · rw [if_neg hjk]
        split
        · exact (allTo_iff _ _).1 hp.2.1 i hik
        · exact h3 i (j - 1) (by omega) (by omega)
    · rw [if_neg hik, if_neg (show ¬ j < k by omega), if_neg (show ¬ j = k by omega)]
      split
      · exact posH_above h3 hp hh (by omega) (by omega)
      · exact h3 (i - 1) (j - 1) (by omega) (by omega)
/-- What came of hints to which one was added. -/
theorem add_ok {hs X : List Hn} {t : ByteArray} {x : Int} (h : AddH hs t x (X, true)) : hintsB hs = true ∧ hintTI t = true ∧ hnW x = true ∧ ∃ k, PosH hs t k ∧ k < X.length ∧ PosH X t k ∧ hereH X t k = true ∧ hintsB X = true ∧
    ((hereH hs t k = true ∧ (hnat hs k).weight + x ≤ 999999999 ∧ X = hs.set k ⟨t, (hnat hs k).weight + x⟩) ∨ (hereH hs t k = false ∧ hs.length < 10 ∧ X = insAt hs k ⟨t, x⟩)) := by
  rcases h with ⟨_, h⟩ | ⟨_, _, h⟩ | ⟨hB, htx, k, hp, h⟩
  · cases h
  · cases h
  · rw [Bool.and_eq_true] at htx
    obtain ⟨ht, hx⟩ := htx
    have hx2 : 1 ≤ x := by
      unfold hnW at hx
      simp only [Bool.and_eq_true, decide_eq_true_eq] at hx
      exact hx.1
    obtain ⟨h10, hfa⟩ := hints_facts hB
    unfold addAt at h
    cases hh : hereH hs t k with
    | true =>
      rw [hh, if_pos rfl] at h
      have hk := hereH_lt hh
      have htk := hereH_text hh
      by_cases hle : (hnat hs k).weight + x ≤ 999999999
      · rw [if_pos hle] at h
        injection h with h _
        rw [htk] at h
        refine ⟨hB, ht, hx, k, hp, by rw [h, List.length_set]; exact hk, ?_, ?_, ?_, .inl ⟨hh, hle, h⟩⟩
        · rw [h]
          refine ⟨by rw [List.length_set]; omega, (allTo_iff _ _).2 fun i hi => ?_, fun _ => ?_⟩
          · unfold ltH
            rw [hnat_set (by omega), if_neg (by omega)]
            exact (allTo_iff _ _).1 hp.2.1 i hi
          · unfold ltH
            rw [hnat_set hk, if_pos rfl]
            exact less_irrefl _
        · rw [h]
          exact hereH_mk (by rw [List.length_set]; exact hk) (by rw [hnat_set hk, if_pos rfl])
        · have := set_ok (k := k) (z := (hnat hs k).weight + x) hB (by
            obtain ⟨_, w1, w2⟩ := hfa k hk
            unfold hnW
            simp only [Bool.and_eq_true, decide_eq_true_eq]
            omega)
          rw [htk] at this
          rw [h]
          exact this
      · rw [if_neg hle] at h
        cases h
    | false =>
      rw [hh, if_neg (by simp)] at h
      by_cases hl : hs.length < 10
      · rw [if_pos hl] at h
        injection h with h _
        have hkl := hp.1
        have h' : X = insAt hs k ⟨t, x⟩ := h
        have hat : hnat X k = ⟨t, x⟩ := by rw [h', insAt_at hkl (by omega), if_neg (by omega), if_pos rfl]
        refine ⟨hB, ht, hx, k, hp, by rw [h', insAt_len]; omega, ⟨by rw [h', insAt_len]; omega, (allTo_iff _ _).2 fun i hi => ?_, fun _ => ?_⟩, ?_, by rw [h']; exact ins_ok hB hl ht hx hp hh, .inr ⟨hh, hl, h'⟩⟩
        · unfold ltH
          rw [h', insAt_at hkl (by omega), if_pos hi]
          exact (allTo_iff _ _).1 hp.2.1 i hi
        · unfold ltH
          rw [hat]
          exact less_irrefl _
        · exact hereH_mk (by rw [h', insAt_len]; omega) (by rw [hat])
      · rw [if_neg hl] at h
        cases h
/-- Twice is both together. -/
theorem add_twice {hs X Y Z : List Hn} {t : ByteArray} {x : Int} {b c : Bool} (h1 : AddH hs t x (X, true)) (h2 : AddH X t 3 (Y, b)) (h3 : AddH hs t (x + 3) (Z, c)) : b = c ∧ (c = true → Y = Z) := by
  obtain ⟨hB, ht, hx, k, hp, hkX, hpX, hhX, hBX, hcase⟩ := add_ok h1
  have hx2 : 1 ≤ x ∧ x ≤ 999999999 := by
    unfold hnW at hx
    simpa [Bool.and_eq_true, decide_eq_true_eq] using hx
  have e2 : (Y, b) = addAt X t 3 k := h2.same (.inr (.inr ⟨hBX, by rw [ht]; rfl, k, hpX, rfl⟩))
  have htX := hereH_text hhX
  obtain ⟨wX, hwX⟩ : ∃ q, (hnat X k).weight = q := ⟨_, rfl⟩
  unfold addAt at e2
  rw [if_pos hhX, htX, hwX] at e2
  by_cases hx3 : x + 3 ≤ 999999999
  · have hw3 : hnW (x + 3) = true := by
      unfold hnW
      simp only [Bool.and_eq_true, decide_eq_true_eq]
      omega
    have e3 : (Z, c) = addAt hs t (x + 3) k := h3.same (.inr (.inr ⟨hB, by rw [ht, hw3]; rfl, k, hp, rfl⟩))
    unfold addAt at e3
    rcases hcase with ⟨hh, hle, rfl⟩ | ⟨hh, hl, rfl⟩
    · have hk := hereH_lt hh
      rw [hnat_set hk, if_pos rfl] at hwX
      simp only at hwX
      rw [if_pos hh, hereH_text hh] at e3
      by_cases h4 : wX + 3 ≤ 999999999
      · rw [if_pos h4, List.set_set] at e2
        rw [if_pos (by omega)] at e3
        cases e2
        cases e3
        exact ⟨rfl, fun _ => by rw [show wX + 3 = (hnat hs k).weight + (x + 3) by omega]⟩
      · rw [if_neg h4] at e2
        rw [if_neg (by omega)] at e3
        cases e2
        cases e3
        exact ⟨rfl, fun e => by cases e⟩
    · have hkl := hp.1
      rw [insAt_at hkl (by omega), if_neg (by omega), if_pos rfl] at hwX
      simp only at hwX
      rw [hh, if_neg (by simp), if_pos hl] at e3
      rw [if_pos (by omega)] at e2
      cases e2
      cases e3
      refine ⟨rfl, fun _ => ?_⟩
      subst hwX
      have e1 : (hs.take k).length = k := by rw [List.length_take]; omega
      unfold insAt
      rw [List.append_assoc, List.set_append_right _ _ (by omega), e1, Nat.sub_self, List.append_assoc]
      rfl
  · have hw3 : hnW (x + 3) = false := by
      unfold hnW
      simp only [Bool.and_eq_false_iff, decide_eq_false_iff_not]
      omega
    have e3 : (Z, c) = (hs, false) := h3.same (.inr (.inl ⟨hB, by rw [hw3, Bool.and_false], rfl⟩))
    have hge : x ≤ wX := by
      rcases hcase with ⟨hh, hle, rfl⟩ | ⟨hh, hl, rfl⟩
      · have hk := hereH_lt hh
        rw [hnat_set hk, if_pos rfl] at hwX
        simp only at hwX
        obtain ⟨_, w1, _⟩ := (hints_facts hB).2 k hk
        omega
      · rw [insAt_at hp.1 (by have := hp.1; omega), if_neg (by omega), if_pos rfl] at hwX
        simp only at hwX
        omega
    rw [if_neg (by omega)] at e2
    cases e2
    cases e3
    exact ⟨rfl, fun e => by cases e⟩
end Go.Proofs.YtgmfaganaeibkaaDoor
