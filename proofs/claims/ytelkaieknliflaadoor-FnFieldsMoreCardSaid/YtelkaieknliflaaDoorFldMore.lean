/- A field more, and one that is there already: plain mathematics. -/
import Derived.Test.YtelkaieknliflaaDoorFldPutPlain
import Derived.Test.YtelkaieknliflaaDoorDrawFlds2
import Derived.Test.YtelkaieknliflaaDoorCutPlain
namespace Go.Proofs.YtelkaieknliflaaDoor
open Go.RowKit
set_option linter.unusedVariables false

theorem putB_size (fs : List Fld) : (putB fs).size ≤ 200 := by
  unfold putB
  cases h : fieldsB fs with
  | false => exact Nat.zero_le _
  | true =>
    have h1 := putTo_size fs h fs.length (Nat.le_refl _)
    have h2 : fs.length ≤ 4 := by
      simp only [fieldsB, Bool.and_eq_true, decide_eq_true_eq] at h
      exact h.1.2
    simp only [if_true]
    omega
abbrev fZ : Fld := ⟨sZ, 2, 0⟩
theorem fat_left (fs : List Fld) (z : Fld) (j : Nat) (h : j < fs.length) : fat (fs ++ [z]) j = fat fs j := by
  rw [fat_get _ _ h, fat_get _ _ (by simp; omega), List.getElem_append_left h]
theorem fat_last (fs : List Fld) (z : Fld) : fat (fs ++ [z]) fs.length = z := by
  rw [fat_get _ _ (by simp), List.getElem_append_right (Nat.le_refl _)]
  simp
theorem noneTo_left (fs : List Fld) (z : Fld) (n : ByteArray) (k : Nat) (h : k ≤ fs.length) : noneTo (fs ++ [z]) n k = noneTo fs n k := allTo_congr fun j hj => by rw [fat_left fs z j (by omega)]
theorem fieldsB_more {fs : List Fld} (h : fieldsB fs = true) (hl : fs.length < 4) (hz : FldsB fs) : fieldsB (fs ++ [fZ]) = true := by
  simp only [fieldsB, Bool.and_eq_true, decide_eq_true_eq, allTo_iff] at h ⊢
  refine ⟨⟨by simp, by simp; omega⟩, fun i hi => ?_⟩
  by_cases e : i < fs.length
  · have h2 := h.2 i e
    unfold fldOk at h2 ⊢
    rw [fat_left _ _ _ e, noneTo_left _ _ _ _ (by omega)]
    exact h2
  · have hi' : i = fs.length := by simp at hi; omega
    subst hi'
    unfold fldOk
    rw [fat_last, noneTo_left _ _ _ _ (Nat.le_refl _)]
    have h3 : noneTo fs sZ fs.length = true := by
      unfold noneTo
      rw [allTo_iff]
      intro j hj
      have := (hz _ (List.getElem_mem hj)).2
      rw [fat_get _ _ hj]
      cases hb : (fs[j].name.toList == sZ.toList) with
      | false => rfl
      | true => exact absurd (by
          rw [beq_iff_eq, ByteArray.toList_eq, ByteArray.toList_eq] at hb
          exact ba_ext hb) this
    have h4 : nameI sZ = true := by decide +kernel
    have h5 : wOk 2 0 = true := by decide
    simp only [h3, h4, h5, Bool.and_self]
theorem fieldsB_same {fs : List Fld} (hp : 0 < fs.length) : fieldsB (fs ++ [fat fs 0]) = false := by
  refine fieldsB_no _ fs.length (by simp) ?_
  unfold fldOk
  rw [fat_last, noneTo_left _ _ _ _ (Nat.le_refl _), noneTo_not hp (by simp)]
  rfl
theorem fldsS_left (fs : List Fld) (z : Fld) (k : Nat) (h : k ≤ fs.length) : fldsS (fs ++ [z]) k = fldsS fs k := by
  unfold fldsS
  refine List.map_congr_left fun i hi => ?_
  rw [fat_left _ _ _ (by have := List.mem_range.1 hi; omega)]
theorem putB_more {fs : List Fld} (h : fieldsB fs = true) (hl : fs.length < 4) (hz : FldsB fs) : putB (fs ++ [fZ]) = putB fs ++ ⟨#[32, 122, 122, 122, 122, 58, 110, 117, 109]⟩ := by
  have hp : 1 ≤ fs.length := by
    simp only [fieldsB, Bool.and_eq_true, decide_eq_true_eq] at h
    exact h.1.1
  unfold putB
  rw [fieldsB_more h hl hz, h]
  simp only [if_true]
  rw [show (fs ++ [fZ]).length = fs.length + 1 from by simp, putTo_succ _ _ (by omega), fat_last, show putTo (fs ++ [fZ]) fs.length = putTo fs fs.length from by unfold putTo; rw [fldsS_left _ _ _ (Nat.le_refl _)]]
  apply ba_ext
  simp [fldS, bNum]
end Go.Proofs.YtelkaieknliflaaDoor
