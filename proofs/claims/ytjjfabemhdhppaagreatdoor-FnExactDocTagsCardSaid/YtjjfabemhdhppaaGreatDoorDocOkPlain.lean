/- Which documents are ok: plain mathematics. -/
import Derived.Test.YtjjfabemhdhppaaGreatDoorFldsOk3
import Derived.Test.YtjjfabemhdhppaaGreatDoorDocForm2
import Derived.Test.YtjjfabemhdhppaaGreatDoorFigs
import Derived.Test.YtjjfabemhdhppaaGreatDoorCutPat
import Derived.Test.YtjjfabemhdhppaaGreatDoorTextOk
namespace Go.Proofs.YtjjfabemhdhppaaGreatDoor
open Go.RowKit
set_option linter.unusedVariables false

def below0 (s : ByteArray) : Bool := decide (0 < s.size) && decide (byteAt s 0 = 45)
/-- A text is a number. -/
def numT (s : ByteArray) : Bool := if below0 s then figB (s.extract 1 s.size) && decide (numB (s.extract 1 s.size) ≠ 0) else figB s
def tparts (s : ByteArray) : List ByteArray := cuts 44 (manyB 44 s) s
/-- A text is tags. -/
def tagT (s : ByteArray) : Bool := (tparts s).all nameI && decide ((tparts s).length ≤ 4)
def cellT (k : Int) (s : ByteArray) : Bool := if k = 2 then numT s else if k = 3 then tagT s else textB s
def fidx (fs : List Fld) (n : ByteArray) : Nat := fs.findIdx fun f => f.name.toList == n.toList
def dcelOk (fs : List Fld) (cs : List Cel) (i : Nat) : Bool := decide (fidx fs (cat cs i).name < fs.length) && cellT (fat fs (fidx fs (cat cs i).name)).kind (cat cs i).text
def docOkB (fs : List Fld) (key : ByteArray) (cs : List Cel) : Bool := fieldsB fs && formB key cs && allTo (dcelOk fs cs) cs.length

theorem noneTo_at {fs : List Fld} {n : ByteArray} {k : Nat} (h : noneTo fs n k = true) (j : Nat) (hj : j < k) : ((fat fs j).name.toList == n.toList) = false := by
  have := (allTo_iff _ _).1 h j hj
  simpa using this
theorem fidx_at {fs : List Fld} {n : ByteArray} {k : Nat} (hk : k < fs.length) (h1 : ((fat fs k).name.toList == n.toList) = true) (h2 : noneTo fs n k = true) : fidx fs n = k := by
  unfold fidx
  rw [List.findIdx_eq hk]
  rw [fat_get _ _ hk] at h1
  refine ⟨h1, fun j hj => ?_⟩
  have := noneTo_at h2 j hj
  rw [fat_get _ _ (by omega)] at this
  exact this
theorem fidx_none {fs : List Fld} {n : ByteArray} (h : noneTo fs n fs.length = true) : fidx fs n = fs.length := by
  unfold fidx
  rw [List.findIdx_eq_length]
  intro f hf
  obtain ⟨j, hj, rfl⟩ := List.getElem_of_mem hf
  have := noneTo_at h j hj
  rw [fat_get _ _ hj] at this
  exact this
theorem fpos_idx {fs : List Fld} {n : ByteArray} {p : Int} (h : FPos fs n p) : (∃ k : Nat, p = k ∧ k < fs.length ∧ fidx fs n = k) ∨ (p = -1 ∧ fidx fs n = fs.length) := by
  rcases h with ⟨k, hk, rfl, h1, h2⟩ | ⟨rfl, h2⟩
  · exact .inl ⟨k, rfl, hk, fidx_at hk h1 h2⟩
  · exact .inr ⟨rfl, fidx_none h2⟩
theorem found_idx {fs : List Fld} {n : ByteArray} {f : Fld} {b : Bool} (h : FoundF fs n f b) : (b = true ∧ fidx fs n < fs.length ∧ f = fat fs (fidx fs n)) ∨ (b = false ∧ fidx fs n = fs.length) := by
  rcases h with ⟨rfl, k, hk, rfl, h1, h2⟩ | ⟨rfl, _, h2⟩
  · refine .inl ⟨rfl, ?_⟩
    rw [fidx_at hk h1 h2]
    exact ⟨hk, rfl⟩
  · exact .inr ⟨rfl, fidx_none h2⟩
theorem docOk_no {fs : List Fld} {key : ByteArray} {cs : List Cel} {k : Nat} (hk : k < cs.length) (h : dcelOk fs cs k = false) : docOkB fs key cs = false := by
  unfold docOkB
  rw [allTo_false _ _ k hk h, Bool.and_false]
/-- As the model tells a number. -/
def numS (s : ByteArray) : Bool := if (decide (1 < s.size) && decide (byteAt s 0 = 45)) then decide (0 < figR (s.extract 1 s.size)) else decide (0 ≤ figR s)
theorem figB_dash {s : ByteArray} (h0 : 0 < s.size) (h : byteAt s 0 = 45) : figB s = false := figB_no_at h0 (by omega)
theorem num_same (s : ByteArray) : numS s = numT s := by
  unfold numS numT below0
  by_cases h0 : 0 < s.size
  · by_cases hb : byteAt s 0 = 45
    · rw [show (decide (0 < s.size) && decide (byteAt s 0 = 45)) = true from by simp [h0, hb]]
      by_cases h1 : 1 < s.size
      · rw [show (decide (1 < s.size) && decide (byteAt s 0 = 45)) = true from by simp [h1, hb]]
        simp only [if_true]
        cases hf : figB (s.extract 1 s.size) with
        | false => rw [figR_no hf]; rfl
        | true =>
          rw [figR_yes hf, Bool.true_and]
          exact decide_eq_decide.2 (by omega)
      · rw [show (decide (1 < s.size) && decide (byteAt s 0 = 45)) = false from by simp [h1]]
        simp only [if_true, Bool.false_eq_true, if_false]
        have hz : (s.extract 1 s.size).size = 0 := by rw [ByteArray.size_extract]; omega
        have hf : figB (s.extract 1 s.size) = false := by unfold figB; rw [hz]; rfl
        rw [hf, figR_no (figB_dash h0 hb)]
        rfl
    · rw [show (decide (0 < s.size) && decide (byteAt s 0 = 45)) = false from by simp [hb], show (decide (1 < s.size) && decide (byteAt s 0 = 45)) = false from by simp [hb]]
      simp only [Bool.false_eq_true, if_false]
      cases hf : figB s with
      | false => rw [figR_no hf]; rfl
      | true => rw [figR_yes hf]; simp
  · rw [show (decide (0 < s.size) && decide (byteAt s 0 = 45)) = false from by simp [h0], show (decide (1 < s.size) && decide (byteAt s 0 = 45)) = false from by simp; omega]
    simp only [Bool.false_eq_true, if_false]
    cases hf : figB s with
    | false => rw [figR_no hf]; rfl
    | true => rw [figR_yes hf]; simp
/-- As the model tells a cell. -/
def cellS (k : Int) (s : ByteArray) : Bool := textB s && (k == 1 || (k == 2 && numS s) || (k == 3 && tagT s))
theorem cell_same {k : Int} {s : ByteArray} (hk : k = 1 ∨ k = 2 ∨ k = 3) (ht : textB s = true) : cellS k s = cellT k s := by
  unfold cellS cellT
  rw [ht, num_same]
  rcases hk with rfl | rfl | rfl <;> simp
end Go.Proofs.YtjjfabemhdhppaaGreatDoor
