/- DocNum of the model. -/
import Derived.Test.YtjjfabemhdhppaaGreatDoorDocNum
namespace Go.Proofs.YtjjfabemhdhppaaGreatDoor
open Go.RowKit
set_option linter.unusedVariables false

def kindB (fs : List Fld) (n : ByteArray) (k : Int) : Bool := (fat fs (fidx fs n)).kind == k
theorem ok_num {fs : List Fld} {key : ByteArray} {cs : List Cel} {n : ByteArray} (h1 : docOkB fs key cs = true) (h2 : docH cs n = true) (h3 : kindB fs n 2 = true) : numT (docT cs n) = true := by
  unfold docH at h2
  unfold docT
  cases e : cs.find? (isC n) with
  | none => rw [e] at h2; cases h2
  | some c =>
    obtain ⟨i, hi, rfl⟩ := List.getElem_of_mem (List.mem_of_find?_eq_some e)
    have hn := List.find?_some e
    unfold docOkB at h1
    have h4 := (allTo_iff _ _).1 (by have := h1; simp only [Bool.and_eq_true] at this; exact this.2) i hi
    unfold dcelOk at h4
    rw [cat_get cs i hi] at h4
    have hnm : cs[i].name = n := by
      unfold isC at hn
      have := eq_of_beq hn
      rw [ByteArray.toList_eq, ByteArray.toList_eq] at this
      exact ba_ext this
    rw [hnm] at h4
    unfold kindB at h3
    have hk : (fat fs (fidx fs n)).kind = 2 := eq_of_beq h3
    rw [hk] at h4
    simp only [Bool.and_eq_true] at h4
    exact h4.2
theorem dnum_no {fs : List Fld} {key : ByteArray} {cs : List Cel} {n : ByteArray} (h : (docOkB fs key cs && docH cs n && kindB fs n 2) = false) : dnum fs key cs n = 0 ∧ dhas fs key cs n = false := by
  have hk : toldK fs key cs n ≠ 2 := by
    unfold toldK
    cases e : (docOkB fs key cs && docH cs n) with
    | false => simp
    | true =>
      rw [e] at h
      unfold kindB at h
      simpa using h
  exact ⟨cnum_not hk _, cisn_not hk _⟩
theorem dnum_yes {fs : List Fld} {key : ByteArray} {cs : List Cel} {n : ByteArray} (h1 : docOkB fs key cs = true) (h2 : docH cs n = true) (h3 : kindB fs n 2 = true) : dnum fs key cs n = numV (docT cs n) ∧ dhas fs key cs n = true ∧ numT (docT cs n) = true := by
  have hn := ok_num h1 h2 h3
  have hk : toldK fs key cs n = 2 := (toldK_yes h1 h2).trans (eq_of_beq h3)
  unfold dnum dhas
  rw [hk, cnum_two, cisn_two, numW_yes hn]
  exact ⟨rfl, hn, hn⟩
set_option maxHeartbeats 1000000 in
theorem l2Kind_any (a : Option Addr) (cap : Nat) (fs : List Fld) (n : ByteArray) (k : Int) (w : World) (hk0 : k ≠ 0) (hz : fs.length ≤ 1048576) (hr : FldRow w a fs) :
    Calls Tryz.prog 21 #[.slice a fs.length cap, .string n, .int .i64 k] w fun e w' => e = .returned (.bool (kindB fs n k)) ∧ w' = w := by
  have HL : Hid (Calls Tryz.prog 31 #[.slice a fs.length cap, .string n] w fun e w' => ∃ p : Int, e = .returned (.int .i64 p) ∧ FPos fs n p ∧ w' = w) := l2Field_any a cap fs n w hz hr
  go_enter Tryz.func21, Tryz.ntmps21
  go_wp2_with fail
  refine HL.out.mono ?_
  rintro e w1 ⟨q, rfl, hq, rfl⟩
  clear HL
  rcases fpos_idx hq with ⟨j, rfl, hj, hi⟩ | ⟨rfl, hi⟩
  · have HB : Hid (kindB fs n k = ((fat fs j).kind == k)) := by unfold Hid kindB; rw [hi]
    obtain ⟨g, off, rfl, hg, hc⟩ := hr (by omega)
    obtain ⟨c0, c1, c2⟩ := hc j hj
    have h0 : (0 : Int) ≤ (j : Int) := by omega
    have h1 : (j : Int) < (fs.length : Int) := by omega
    clear hq hi hr hc
    generalize fat fs j = f at *
    go_wp2
    go_ret
    exact ⟨by rw [HB.out]; rfl, rfl⟩
  · have HB : Hid (kindB fs n k = false) := by
      unfold Hid kindB
      rw [hi]
      simp [fat]
      exact fun e => hk0 e.symm
    clear hq hi hr
    go_wp2
    go_ret
    exact ⟨by rw [HB.out]; rfl, rfl⟩
end Go.Proofs.YtjjfabemhdhppaaGreatDoor
