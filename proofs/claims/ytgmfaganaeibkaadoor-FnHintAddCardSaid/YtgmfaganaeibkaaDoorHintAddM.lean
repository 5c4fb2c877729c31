/- What the law FnHintAdd counts. -/
import Derived.Test.YtgmfaganaeibkaaDoorHintMath
import Derived.Test.YtgmfaganaeibkaaDoorSdHints
namespace Go.Proofs.YtgmfaganaeibkaaDoor
open Go.RowKit
set_option linter.unusedVariables false

/-- How much a text counts: as the last hint of it. -/
def wasTo (hs : List Hn) (t : ByteArray) : Nat → Int
  | 0 => 0
  | k + 1 => if ((hnat hs k).text.toList == t.toList) = true then (hnat hs k).weight else wasTo hs t k
/-- How many hints are one that is given. -/
def cntIn (hs : List Hn) (y : Hn) : Nat → Nat
  | 0 => 0
  | k + 1 => cntIn hs y k + if hnEq (hnat hs k) y = true then 1 else 0
/-- The same, unless its text is t. -/
def cntT (hs : List Hn) (t : ByteArray) (y : Hn) (k : Nat) : Nat := if (y.text.toList == t.toList) = true then 0 else cntIn hs y k
def sameTo (hs X : List Hn) (t : ByteArray) : Nat → Nat
  | 0 => 0
  | i + 1 => sameTo hs X t i + cntT hs t (hnat X i) hs.length
theorem cntT_step (hs : List Hn) (t : ByteArray) (y : Hn) (k : Nat) : cntT hs t y (k + 1) = cntT hs t y k + if (hnEq (hnat hs k) y && !(y.text.toList == t.toList)) = true then 1 else 0 := by
  unfold cntT
  cases h : (y.text.toList == t.toList) with
  | true => simp
  | false =>
    simp only [Bool.false_eq_true, if_false, cntIn]
    cases hnEq (hnat hs k) y <;> simp
theorem cntIn_le (hs : List Hn) (y : Hn) : ∀ k, cntIn hs y k ≤ k
  | 0 => Nat.le_refl _
  | k + 1 => by
    have := cntIn_le hs y k
    unfold cntIn
    split <;> omega
theorem cntT_le (hs : List Hn) (t : ByteArray) (y : Hn) (k : Nat) : cntT hs t y k ≤ k := by
  unfold cntT
  split
  · omega
  · exact cntIn_le hs y k
theorem sameTo_le (hs X : List Hn) (t : ByteArray) : ∀ i, sameTo hs X t i ≤ i * hs.length
  | 0 => by simp [sameTo]
  | i + 1 => by
    have h1 := sameTo_le hs X t i
    have h2 := cntT_le hs t (hnat X i) hs.length
    unfold sameTo
    rw [Nat.succ_mul]
    omega
theorem was_none {hs : List Hn} {t : ByteArray} : ∀ {n : Nat}, (∀ i, i < n → (hnat hs i).text ≠ t) → wasTo hs t n = 0
  | 0, _ => rfl
  | n + 1, h => by
    unfold wasTo
    rw [if_neg (fun e => h n (by omega) (text_eq (by simpa using e)))]
    exact was_none (fun i hi => h i (by omega))
theorem was_one {hs : List Hn} {t : ByteArray} {k : Nat} (hk : (hnat hs k).text = t) : ∀ {n : Nat}, k < n → (∀ i, k < i → i < n → (hnat hs i).text ≠ t) → wasTo hs t n = (hnat hs k).weight
  | 0, h, _ => by omega
  | n + 1, h, hn => by
    unfold wasTo
    by_cases e : n = k
    · subst e
      rw [if_pos (by rw [hk]; simp)]
    · rw [if_neg (fun e' => hn n (by omega) (by omega) (text_eq (by simpa using e')))]
      exact was_one hk (by omega) (fun i h1 h2 => hn i h1 (by omega))
theorem asc_text {hs : List Hn} (h : AscH hs) {i j : Nat} (hi : i < hs.length) (hj : j < hs.length) (e : (hnat hs i).text = (hnat hs j).text) : i = j := by
  rcases Nat.lt_trichotomy i j with h1 | h1 | h1
  · have := h i j h1 hj
    rw [e, less_irrefl] at this
    cases this
  · exact h1
  · have := h j i h1 hi
    rw [e, less_irrefl] at this
    cases this
theorem cnt_none {hs : List Hn} {y : Hn} : ∀ {n : Nat}, (∀ i, i < n → hnat hs i ≠ y) → cntIn hs y n = 0
  | 0, _ => rfl
  | n + 1, h => by
    unfold cntIn
    rw [cnt_none (fun i hi => h i (by omega)), if_neg (fun e => h n (by omega) (hnEq_iff.1 e))]
theorem cnt_one {hs : List Hn} {y : Hn} {k : Nat} (hk : hnat hs k = y) : ∀ {n : Nat}, k < n → (∀ i, i < n → i ≠ k → hnat hs i ≠ y) → cntIn hs y n = 1
  | 0, h, _ => by omega
  | n + 1, h, hn => by
    unfold cntIn
    by_cases e : n = k
    · subst e
      rw [cnt_none (fun i hi => hn i (by omega) (by omega)), if_pos (hnEq_iff.2 hk)]
    · rw [cnt_one hk (by omega) (fun i h1 h2 => hn i (by omega) h2), if_neg (fun e' => hn n (by omega) e (hnEq_iff.1 e'))]
theorem cnt_asc {hs : List Hn} (h : AscH hs) {k : Nat} (hk : k < hs.length) : cntIn hs (hnat hs k) hs.length = 1 :=
  cnt_one rfl hk (fun i hi hne e => hne (asc_text h hi hk (by rw [e])))
theorem same_sum {hs X : List Hn} {t : ByteArray} {k : Nat} (h0 : cntT hs t (hnat X k) hs.length = 0) : ∀ {n : Nat}, (∀ i, i < n → i ≠ k → cntT hs t (hnat X i) hs.length = 1) → sameTo hs X t n = if k < n then n - 1 else n
  | 0, _ => by simp [sameTo]
  | n + 1, h => by
    unfold sameTo
    rw [same_sum h0 (fun i hi hne => h i (by omega) hne)]
    by_cases e : n = k
    · subst e
      rw [h0, if_neg (by omega), if_pos (by omega)]
      omega
    · rw [h n (by omega) e]
      split
      · rw [if_pos (by omega)]; omega
      · rw [if_neg (by omega)]
/-- What the law counts. -/
theorem add_counts {hs X : List Hn} {t : ByteArray} {x : Int} (h : AddH hs t x (X, true)) : hintsB X = true ∧ wasTo X t X.length = wasTo hs t hs.length + x ∧ sameTo hs X t X.length = X.length - 1 ∧ 1 ≤ X.length := by
  obtain ⟨hB, ht, hx, k, hp, hkX, hpX, hhX, hBX, hcase⟩ := add_ok h
  obtain ⟨_, _, hasc⟩ := hints_iff.1 hB
  obtain ⟨_, _, hascX⟩ := hints_iff.1 hBX
  have htX := hereH_text hhX
  have hwX : wasTo X t X.length = (hnat X k).weight := was_one htX hkX (fun i h1 h2 e => by
    have := asc_text hascX h2 hkX (e.trans htX.symm)
    omega)
  have h0 : cntT hs t (hnat X k) hs.length = 0 := by
    unfold cntT
    rw [htX, if_pos (by simp)]
  have htxt : ∀ i, i < X.length → i ≠ k → ((hnat X i).text.toList == t.toList) = false := fun i hi hne => by
    cases e : ((hnat X i).text.toList == t.toList) with
    | false => rfl
    | true => exact absurd (asc_text hascX hi hkX ((text_eq (by simpa using e)).trans htX.symm)) hne
  have h1 : ∀ i, i < X.length → i ≠ k → cntT hs t (hnat X i) hs.length = 1 := fun i hi hne => by
    unfold cntT
    rw [if_neg (by rw [htxt i hi hne]; simp)]
    rcases hcase with ⟨hh, hle, e⟩ | ⟨hh, hl, e⟩
    · rw [e, List.length_set] at hi
      rw [e, hnat_set hi, if_neg (fun e => hne e.symm)]
      exact cnt_asc hasc hi
    · rw [e, insAt_len] at hi
      have hkl := hp.1
      rw [e, insAt_at hp.1 hi]
      by_cases hik : i < k
      · rw [if_pos hik]
        exact cnt_asc hasc (by omega)
      · rw [if_neg hik, if_neg hne]
        exact cnt_asc hasc (by omega)
  have hsum := same_sum h0 (n := X.length) h1
  rw [if_pos hkX] at hsum
  refine ⟨hBX, ?_, hsum, by omega⟩
  rw [hwX]
  rcases hcase with ⟨hh, hle, e⟩ | ⟨hh, hl, e⟩
  · have hk := hereH_lt hh
    rw [was_one (hereH_text hh) hk (fun i h1 h2 e => by
      have := asc_text hasc h2 hk (e.trans (hereH_text hh).symm)
      omega), e, hnat_set hk, if_pos rfl]
  · rw [was_none (fun i hi e' => by
      have hki : hereH hs t i = true := hereH_mk hi e'
      by_cases hik : i < k
      · have h2 : ltH hs t i = true := (allTo_iff _ _).1 hp.2.1 i hik
        unfold ltH at h2
        rw [e', less_irrefl] at h2
        cases h2
      · have := posH_above hasc hp hh (by omega) hi
        rw [e', less_irrefl] at this
        cases this), e, insAt_at hp.1 (by have := hp.1; omega), if_neg (by omega), if_pos rfl]
    simp
end Go.Proofs.YtgmfaganaeibkaaDoor
