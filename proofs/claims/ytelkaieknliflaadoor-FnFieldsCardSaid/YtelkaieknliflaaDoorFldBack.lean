/- Fields that are written are read back: plain mathematics. -/
import Derived.Test.YtelkaieknliflaaDoorFldGetPlain
namespace Go.Proofs.YtelkaieknliflaaDoor
open Go.RowKit
set_option linter.unusedVariables false

def NoB (b : Int) (s : ByteArray) : Prop := ∀ j, j < s.size → byteAt s j ≠ b
theorem NoB.app {b : Int} {x y : ByteArray} (hx : NoB b x) (hy : NoB b y) : NoB b (x ++ y) := fun j hj => by
  rw [ByteArray.size_append] at hj
  by_cases h : j < x.size
  · rw [byteAt_left _ _ _ h]; exact hx j h
  · obtain ⟨i, rfl⟩ : ∃ i, j = x.size + i := ⟨j - x.size, by omega⟩
    rw [byteAt_right]
    exact hy i (by omega)
theorem name_no {s : ByteArray} (h : nameI s = true) : NoB 58 s ∧ NoB 32 s := by
  simp only [nameI, Bool.and_eq_true, allTo_iff] at h
  constructor
  all_goals
    intro j hj
    have := h.2 j hj
    simp only [okB, smallB, figureB, Bool.or_eq_true, Bool.and_eq_true, decide_eq_true_eq] at this
    omega
theorem part_cut {n : ByteArray} (t : ByteArray) (hn : NoB 58 n) : cuts 58 1 (n ++ ((⟨#[58]⟩ : ByteArray) ++ t)) = [n, t] := by
  have hsz : (n ++ ((⟨#[58]⟩ : ByteArray) ++ t)).size = n.size + (1 + t.size) := by rw [ByteArray.size_append, ByteArray.size_append]; rfl
  have hb0 : byteAt (n ++ ((⟨#[58]⟩ : ByteArray) ++ t)) n.size = ((58 : UInt8).toNat : Int) := by
    have := byteAt_right n ((⟨#[58]⟩ : ByteArray) ++ t) 0
    rw [Nat.add_zero] at this
    rw [this, byteAt_left _ _ _ (by show 0 < 1; omega)]
    rfl
  have hit := cuts_hit (n ++ ((⟨#[58]⟩ : ByteArray) ++ t)) 58 0 0 n.size (Nat.zero_le _) (by omega) hb0 (fun j _ hj => by rw [byteAt_left _ _ _ hj]; exact hn j hj)
  rw [extract_all] at hit
  have e1 : (n ++ ((⟨#[58]⟩ : ByteArray) ++ t)).extract 0 n.size = n := ba_ext (by
    rw [Lib.extract_data, ByteArray.data_append, Array.toList_append, List.drop_zero, Nat.sub_zero, Lib.size_eq n, List.take_left])
  have e2 : (n ++ ((⟨#[58]⟩ : ByteArray) ++ t)).extract (n.size + 1) (n ++ ((⟨#[58]⟩ : ByteArray) ++ t)).size = t := ba_ext (by
    rw [Lib.extract_to_end, ByteArray.data_append, Array.toList_append, ByteArray.data_append, Array.toList_append, Lib.size_eq, List.drop_append]
    simp)
  rw [hit, e1, e2, cuts_zero]
theorem part_read {n : ByteArray} (t : ByteArray) (hn : NoB 58 n) : nameOf (n ++ ((⟨#[58]⟩ : ByteArray) ++ t)) = n ∧ restOf (n ++ ((⟨#[58]⟩ : ByteArray) ++ t)) = t := by
  have h := part_cut t hn
  have h2 : two 58 (n ++ ((⟨#[58]⟩ : ByteArray) ++ t)) = true := by unfold two; rw [h]; rfl
  exact ⟨by unfold nameOf; rw [h]; rfl, by rw [rest_yes h2, h]; rfl⟩
theorem text_no : NoB 58 sText := by
  intro j hj
  have : j < 4 := hj
  rcases (show j = 0 ∨ j = 1 ∨ j = 2 ∨ j = 3 from by omega) with rfl | rfl | rfl | rfl <;> decide +kernel
theorem colon_no : NoB 32 (⟨#[58]⟩ : ByteArray) := by
  intro j hj
  have : j < 1 := hj
  obtain rfl : j = 0 := by omega
  decide +kernel
theorem text_read (t : ByteArray) : isTx (sText ++ ((⟨#[58]⟩ : ByteArray) ++ t)) = true ∧ figOf (sText ++ ((⟨#[58]⟩ : ByteArray) ++ t)) = t := by
  have h := part_cut t text_no
  constructor
  · unfold isTx two
    rw [h]
    show (decide (2 ≤ 2) && (sText.toList == sText.toList)) = true
    simp
  · unfold figOf
    rw [h]
    rfl
theorem weight_read (x : Int) (h1 : 1 ≤ x) (h9 : x ≤ 9) : figR (decS x.toNat) = x ∧ NoB 32 (decS x.toNat) := by
  rw [decS_small _ (by omega)]
  rcases (show x = 1 ∨ x = 2 ∨ x = 3 ∨ x = 4 ∨ x = 5 ∨ x = 6 ∨ x = 7 ∨ x = 8 ∨ x = 9 from by omega) with rfl | rfl | rfl | rfl | rfl | rfl | rfl | rfl | rfl
  all_goals
    refine ⟨by decide +kernel, fun j hj => ?_⟩
    have : j < 1 := hj
    obtain rfl : j = 0 := by omega
    decide +kernel
theorem wOk_of {k x : Int} (h : wOk k x = true) : (k = 1 ∧ 1 ≤ x ∧ x ≤ 9) ∨ (k = 2 ∧ x = 0) ∨ (k = 3 ∧ x = 0) := by
  unfold wOk at h
  by_cases e1 : k = 1
  · rw [if_pos (by simpa using e1)] at h
    simp only [Bool.and_eq_true, decide_eq_true_eq] at h
    exact .inl ⟨e1, h⟩
  · rw [if_neg (by simpa using e1)] at h
    by_cases e2 : k = 2
    · rw [if_pos (by simpa using e2)] at h
      exact .inr (.inl ⟨e2, by simpa using h⟩)
    · rw [if_neg (by simpa using e2)] at h
      by_cases e3 : k = 3
      · rw [if_pos (by simpa using e3)] at h
        exact .inr (.inr ⟨e3, by simpa using h⟩)
      · rw [if_neg (by simpa using e3)] at h
        cases h
/-- A field that is written is read as it was, and holds no blank. -/
theorem gfld_fldS {f : Fld} (hn : nameI f.name = true) (hw : wOk f.kind f.weight = true) : gfld (fldS f) = f ∧ NoB 32 (fldS f) := by
  obtain ⟨n1, n2⟩ := name_no hn
  obtain ⟨nm, k, x⟩ := f
  simp only at n1 n2 hn hw
  rcases wOk_of hw with ⟨rfl, h1, h9⟩ | ⟨rfl, rfl⟩ | ⟨rfl, rfl⟩
  · obtain ⟨w1, w2⟩ := weight_read x h1 h9
    have e : fldS ⟨nm, 1, x⟩ = nm ++ ((⟨#[58]⟩ : ByteArray) ++ (sText ++ ((⟨#[58]⟩ : ByteArray) ++ decS x.toNat))) := by
      rw [fldS_text _ rfl]
      apply ba_ext
      simp [bText]
    obtain ⟨r1, r2⟩ := part_read (sText ++ ((⟨#[58]⟩ : ByteArray) ++ decS x.toNat)) n1
    obtain ⟨t1, t2⟩ := text_read (decS x.toNat)
    have hk : gkind (fldS ⟨nm, 1, x⟩) = 1 := by
      unfold gkind
      rw [e, r2, tx_not t1 two_num, tx_not t1 two_tag, t1]
      rfl
    refine ⟨?_, ?_⟩
    · unfold gfld
      rw [hk, e, r1, r2, t2, if_pos rfl, w1]
    · rw [e]
      exact n2.app (NoB.app colon_no (NoB.app (fun j hj => by
        have : j < 4 := hj
        rcases (show j = 0 ∨ j = 1 ∨ j = 2 ∨ j = 3 from by omega) with rfl | rfl | rfl | rfl <;> decide +kernel) (NoB.app colon_no w2)))
  · have e : fldS ⟨nm, 2, 0⟩ = nm ++ ((⟨#[58]⟩ : ByteArray) ++ sNum) := by
      rw [fldS_num _ rfl]
      apply ba_ext
      simp [bNum]
    obtain ⟨r1, r2⟩ := part_read sNum n1
    have hk : gkind (fldS ⟨nm, 2, 0⟩) = 2 := by
      unfold gkind
      rw [e, r2]
      simp
    refine ⟨?_, ?_⟩
    · unfold gfld
      rw [hk, e, r1, if_neg (by decide)]
    · rw [e]
      exact n2.app (fun j hj => by
        have : j < 4 := hj
        rcases (show j = 0 ∨ j = 1 ∨ j = 2 ∨ j = 3 from by omega) with rfl | rfl | rfl | rfl <;> decide +kernel)
  · have e : fldS ⟨nm, 3, 0⟩ = nm ++ ((⟨#[58]⟩ : ByteArray) ++ sTag) := by
      rw [fldS_tag _ rfl]
      apply ba_ext
      simp [bTag]
    obtain ⟨r1, r2⟩ := part_read sTag n1
    have hk : gkind (fldS ⟨nm, 3, 0⟩) = 3 := by
      unfold gkind
      rw [e, r2, show (sTag.toList == sNum.toList) = false from by decide +kernel]
      simp
    refine ⟨?_, ?_⟩
    · unfold gfld
      rw [hk, e, r1, if_neg (by decide)]
    · rw [e]
      exact n2.app (fun j hj => by
        have : j < 4 := hj
        rcases (show j = 0 ∨ j = 1 ∨ j = 2 ∨ j = 3 from by omega) with rfl | rfl | rfl | rfl <;> decide +kernel)
theorem fld_good {fs : List Fld} (h : fieldsB fs = true) (k : Nat) (hk : k < fs.length) : nameI (fat fs k).name = true ∧ wOk (fat fs k).kind (fat fs k).weight = true := by
  simp only [fieldsB, Bool.and_eq_true, decide_eq_true_eq, allTo_iff] at h
  have h2 := h.2 k hk
  simp only [fldOk, Bool.and_eq_true] at h2
  exact ⟨h2.1.2, h2.2⟩
/-- What is written is read back. -/
theorem getF_put {fs : List Fld} (h : fieldsB fs = true) : getFB (putTo fs fs.length) = true ∧ getFL (putTo fs fs.length) = fs := by
  have hl : 1 ≤ fs.length ∧ fs.length ≤ 4 := by
    have h2 := h
    simp only [fieldsB, Bool.and_eq_true, decide_eq_true_eq] at h2
    exact h2.1
  have hc : cuts 32 4 (putTo fs fs.length) = fldsS fs fs.length := by
    refine cuts_join 32 _ 4 _ (by rw [fldsS_len]; omega) (by rw [fldsS_len]; omega) (fun p hp => ?_) rfl
    simp only [fldsS, List.mem_map, List.mem_range] at hp
    obtain ⟨i, hi, rfl⟩ := hp
    obtain ⟨g1, g2⟩ := fld_good h i hi
    exact (gfld_fldS g1 g2).2
  have hg : gflds (fldsS fs fs.length) = fs := by
    apply List.ext_getElem
    · rw [gflds, List.length_map, fldsS_len]
    · intro i h1 h2
      obtain ⟨g1, g2⟩ := fld_good h i h2
      have : (gflds (fldsS fs fs.length))[i] = gfld (fldS (fat fs i)) := by simp [gflds, fldsS]
      rw [this, (gfld_fldS g1 g2).1, fat_get _ _ h2]
  obtain ⟨m1, m2⟩ := model_same (putTo fs fs.length)
  rw [hc, hg, h] at m1
  obtain ⟨m3, _⟩ := m2 m1.symm
  refine ⟨m1.symm, ?_⟩
  unfold getFL
  rw [← m1, ← m3, hc, hg]
  rfl
end Go.Proofs.YtelkaieknliflaaDoor
