/- A document is read back from its text: plain mathematics. -/
import Derived.Test.YtinniomeblkmeaaDoorDocGetPlain
import Derived.Test.YtinniomeblkmeaaDoorCutsJoin
namespace Go.Proofs.YtinniomeblkmeaaDoor
open Go.RowKit
set_option linter.unusedVariables false

def lineS (c : Cel) : ByteArray := c.name ++ ⟨#[61]⟩ ++ c.text
theorem name_byte {s : ByteArray} (h : nameI s = true) (j : Nat) (hj : j < s.size) : 48 ≤ byteAt s j ∧ byteAt s j ≠ 61 := by
  simp only [nameI, Bool.and_eq_true, allTo_iff] at h
  have := h.2 j hj
  simp only [okB, smallB, figureB, Bool.or_eq_true, Bool.and_eq_true, decide_eq_true_eq] at this
  omega
theorem text_byte {s : ByteArray} (h : textB s = true) (j : Nat) (hj : j < s.size) : 32 ≤ byteAt s j := by
  simp only [textB, Bool.and_eq_true, allTo_iff] at h
  have := h.2 j hj
  simp only [seenB, Bool.and_eq_true, decide_eq_true_eq] at this
  exact this.1
theorem lineS_cut {c : Cel} (h : nameI c.name = true) : cuts 61 1 (lineS c) = [c.name, c.text] := by
  have e : lineS c = c.name ++ ((⟨#[61]⟩ : ByteArray) ++ c.text) := by unfold lineS; rw [ByteArray.append_assoc]
  have hsz : (lineS c).size = c.name.size + (1 + c.text.size) := by rw [e, ByteArray.size_append, ByteArray.size_append]; rfl
  have hb0 : byteAt (lineS c) c.name.size = ((61 : UInt8).toNat : Int) := by
    have := byteAt_right c.name ((⟨#[61]⟩ : ByteArray) ++ c.text) 0
    rw [Nat.add_zero] at this
    rw [e, this, byteAt_left _ _ _ (by show 0 < 1; omega)]
    rfl
  have hit := cuts_hit (lineS c) 61 0 0 c.name.size (Nat.zero_le _) (by omega) hb0 (fun j _ hj => by rw [e, byteAt_left _ _ _ hj]; exact (name_byte h j hj).2)
  rw [extract_all] at hit
  have e1 : (lineS c).extract 0 c.name.size = c.name := ba_ext (by
    rw [Lib.extract_data, e, ByteArray.data_append, Array.toList_append, List.drop_zero, Nat.sub_zero, Lib.size_eq c.name, List.take_left])
  have e2 : (lineS c).extract (c.name.size + 1) (lineS c).size = c.text := ba_ext (by
    rw [Lib.extract_to_end, e, ByteArray.data_append, Array.toList_append, ByteArray.data_append, Array.toList_append, Lib.size_eq, List.drop_append]
    simp)
  rw [hit, e1, e2, cuts_zero]
theorem lineS_two {c : Cel} (h : nameI c.name = true) : two 61 (lineS c) = true := by unfold two; rw [lineS_cut h]; rfl
theorem lineS_cel {c : Cel} (h : nameI c.name = true) : celOf (lineS c) = c := by unfold celOf; rw [lineS_cut h]; rfl
theorem lineS_no10 {c : Cel} (h1 : nameI c.name = true) (h2 : textB c.text = true) (j : Nat) (hj : j < (lineS c).size) : byteAt (lineS c) j ≠ ((10 : UInt8).toNat : Int) := by
  have e : lineS c = c.name ++ ((⟨#[61]⟩ : ByteArray) ++ c.text) := by unfold lineS; rw [ByteArray.append_assoc]
  have hsz : (lineS c).size = c.name.size + (1 + c.text.size) := by rw [e, ByteArray.size_append, ByteArray.size_append]; rfl
  rw [e]
  by_cases h : j < c.name.size
  · rw [byteAt_left _ _ _ h]
    have := (name_byte h1 j h).1
    show _ ≠ (10 : Int)
    omega
  · obtain ⟨i, rfl⟩ : ∃ i, j = c.name.size + i := ⟨j - c.name.size, by omega⟩
    rw [byteAt_right]
    by_cases h0 : i = 0
    · subst h0
      rw [byteAt_left _ _ _ (by show 0 < 1; omega)]
      decide
    · obtain ⟨k, rfl⟩ : ∃ k, i = (⟨#[61]⟩ : ByteArray).size + k := ⟨i - 1, by show i = 1 + (i - 1); omega⟩
      rw [byteAt_right]
      have hk : k < c.text.size := by
        have : (⟨#[61]⟩ : ByteArray).size = 1 := rfl
        omega
      have := text_byte h2 k hk
      show _ ≠ (10 : Int)
      omega
def docPs (key : ByteArray) (cs : List Cel) : List ByteArray := key :: cs.map lineS
theorem docPs_len (key : ByteArray) (cs : List Cel) : (docPs key cs).length = cs.length + 1 := by simp [docPs]
theorem docPs_at (key : ByteArray) (cs : List Cel) (i : Nat) (h : i < cs.length) : pat (docPs key cs) (i + 1) = lineS (cat cs i) := by
  rw [pat_get _ _ (by rw [docPs_len]; omega), cat_get _ _ h]
  simp [docPs]
/-- What was written is read. -/
theorem get_put {key : ByteArray} {cs : List Cel} (h : formB key cs = true) : getB (docPutB key cs) = true ∧ getK (docPutB key cs) = key ∧ getC (docPutB key cs) = cs := by
  have hf := h
  simp only [formB, Bool.and_eq_true, decide_eq_true_eq, allTo_iff, celOk] at hf
  obtain ⟨⟨hk, hl⟩, hc⟩ := hf
  have hnm : ∀ i, i < cs.length → nameI (cat cs i).name = true := fun i hi => (hc i hi).1.2
  have htx : ∀ i, i < cs.length → textB (cat cs i).text = true := fun i hi => (hc i hi).2
  have hlines : linesTo (docPs key cs) cs.length = true := (allTo_iff _ _).2 fun i hi => by rw [docPs_at key cs i hi]; exact lineS_two (hnm i hi)
  have hcels : cels (docPs key cs) cs.length = cs := by
    apply List.ext_getElem
    · exact cels_len _ _
    · intro i h1 h2
      rw [← cat_get _ _ h1, ← cat_get _ _ h2, cels_at _ _ _ h2, docPs_at key cs i h2, lineS_cel (hnm i h2)]
  have hput := put_lines (docPs key cs) cs.length (by rw [docPs_len]) hlines cs.length (Nat.le_refl _)
  have hp0 : pat (docPs key cs) 0 = key := rfl
  rw [hcels, hp0, show cs.length + 1 = (docPs key cs).length from (docPs_len key cs).symm, List.take_length] at hput
  have hT : docPutB key cs = docPutTo key cs cs.length := by unfold docPutB; rw [h]; rfl
  rw [hT]
  generalize docPutTo key cs cs.length = T at *
  have hno : ∀ p ∈ docPs key cs, ∀ j, j < p.size → byteAt p j ≠ ((10 : UInt8).toNat : Int) := by
    intro p hp j hj
    rcases List.mem_cons.1 hp with rfl | hp
    · have := (name_byte hk j hj).1
      show _ ≠ (10 : Int)
      omega
    · obtain ⟨c, hcm, rfl⟩ := List.mem_map.1 hp
      obtain ⟨i, hi, rfl⟩ := List.mem_iff_getElem.1 hcm
      rw [← cat_get _ _ hi] at hj ⊢
      exact lineS_no10 (hnm i hi) (htx i hi) j hj
  have hcut := cuts_join 10 (docPs key cs) (max (docPs key cs).length (manyB 10 T)) T (by rw [docPs_len]; omega) (by omega) hno hput
  rw [cuts_enough 10 _ T (by omega)] at hcut
  have hd : dparts T = docPs key cs := hcut
  have hok : docOkP (dparts T) = true := by
    rw [hd]
    unfold docOkP
    rw [docPs_len, Nat.add_sub_cancel, hlines, hcels, hp0, h]
    rfl
  obtain ⟨g1, g2, g3⟩ := get_yes hok
  rw [g1, g2, g3, hd, docPs_len, Nat.add_sub_cancel, hcels]
  exact ⟨rfl, hp0, rfl⟩
/-- What is read is written just so. -/
theorem put_get {s : ByteArray} (h : getB s = true) : docPutB (getK s) (getC s) = s := by
  have h1 : docOkP (dparts s) = true := h
  obtain ⟨_, g2, g3⟩ := get_yes h1
  have h2 := h1
  simp only [docOkP, Bool.and_eq_true] at h2
  unfold docPutB
  rw [g2, g3, h2.2, cels_len]
  exact put_back _ s h2.1
end Go.Proofs.YtinniomeblkmeaaDoor
