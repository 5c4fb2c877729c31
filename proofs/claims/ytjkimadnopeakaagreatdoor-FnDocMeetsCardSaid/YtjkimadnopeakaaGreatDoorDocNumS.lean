/- DocNum of the model. -/
import Derived.Test.YtjkimadnopeakaaGreatDoorDocNum
import Derived.Test.YtjkimadnopeakaaGreatDoorKindB
namespace Go.Proofs.YtjkimadnopeakaaGreatDoor
open Go.RowKit
set_option linter.unusedVariables false

theorem ok_num {fs : List Fld} {key : ByteArray} {cs : List Cel} {n : ByteArray} (h1 : docOkB fs key cs = true) (h2 : docH cs n = true) (h3 : kindB fs n 2 = true) : numT (docT cs n) = true := by
  unfold docH at h2
  unfold docT
  cases e : cs.find? (isC n) with
  | none => rw [e] at h2; cases h2
  | some c =>
    obtain ⟨i, hi, rfl⟩ := List.getElem_of_mem (List.mem_of_find?_eq_some e)
    have hn := List.find?_some e
    unfold docOkB at h1
    have h4 := (allTo_iff _ _).1 (by have := h1; simp only [Bool.and_eq_true] at this; exact this.2) i hi
    unfold dcelOk at h4
    rw [cat_get cs i hi] at h4
    have hnm : cs[i].name = n := by
      unfold isC at hn
      have := eq_of_beq hn
      rw [ByteArray.toList_eq, ByteArray.toList_eq] at this
      exact ba_ext this
    rw [hnm] at h4
    unfold kindB at h3
    have hk : (fat fs (fidx fs n)).kind = 2 := eq_of_beq h3
    rw [hk] at h4
    simp only [Bool.and_eq_true] at h4
    exact h4.2
theorem dnum_no {fs : List Fld} {key : ByteArray} {cs : List Cel} {n : ByteArray} (h : (docOkB fs key cs && docH cs n && kindB fs n 2) = false) : dnum fs key cs n = 0 ∧ dhas fs key cs n = false := by
  have hk : toldK fs key cs n ≠ 2 := by
    unfold toldK
    cases e : (docOkB fs key cs && docH cs n) with
    | false => simp
    | true =>
      rw [e] at h
      unfold kindB at h
      simpa using h
  exact ⟨cnum_not hk _, cisn_not hk _⟩
theorem dnum_yes {fs : List Fld} {key : ByteArray} {cs : List Cel} {n : ByteArray} (h1 : docOkB fs key cs = true) (h2 : docH cs n = true) (h3 : kindB fs n 2 = true) : dnum fs key cs n = numV (docT cs n) ∧ dhas fs key cs n = true ∧ numT (docT cs n) = true := by
  have hn := ok_num h1 h2 h3
  have hk : toldK fs key cs n = 2 := (toldK_yes h1 h2).trans (eq_of_beq h3)
  unfold dnum dhas
  rw [hk, cnum_two, cisn_two, numW_yes hn]
  exact ⟨rfl, hn, hn⟩
set_option maxHeartbeats 1000000 in
set_option maxRecDepth 100000 in
theorem docNumS_any (a : Option Addr) (capf : Nat) (fs : List Fld) (key : ByteArray) (p : Option Addr) (capc : Nat) (cs : List Cel) (n : ByteArray) (w : World) (hzf : fs.length ≤ 1048576) (hsf : FldsSmall fs) (hrf : FldRow w a fs)
    (hk : key.size ≤ 1048576) (hzc : cs.length ≤ 1048576) (hsc : CelsSmall cs) (hrc : CelRow w p cs) :
    Calls Tryz.prog 34 #[.slice a fs.length capf, .agg #[.string key, .slice p cs.length capc], .string n] w fun e w' => e = .returned (.tuple #[.int .i64 (dnum fs key cs n), .bool (dhas fs key cs n)]) ∧ Below w.heap.size w w' := by
  have hb0 : Below w.heap.size w (w.alloc (.cells #[.string key, .slice p cs.length capc] 37)) := (Below.refl _ w).alloc (Nat.le_refl _) _
  have D0 := Blk.new w #[.string key, .slice p cs.length capc] 37
  have HRF : Hid (∀ wx, Below w.heap.size w wx → FldRow wx a fs) := fun wx h => hrf.below h
  have HRC : Hid (∀ wx, Below w.heap.size w wx → CelRow wx p cs) := fun wx h => hrc.below h
  have HSZ : Hid ((docT cs n).size ≤ 1048576) := docT_size hsc n
  have HSF : Hid (FldsSmall fs) := hsf
  have HSC : Hid (CelsSmall cs) := hsc
  clear hsf hrf hsc hrc
  go_enter Tryz.func34, Tryz.ntmps34
  go_wp2_with fail
  refine (docTextS_any key n p capc cs _ hzc (HRC.out _ hb0)).mono ?_
  rintro e u1 ⟨rfl, hb1⟩
  have D1 := D0.below hb1 D0.lt
  have hw1 := below_trans hb0 hb1
  clear hb0 hb1 D0
  have k0 := D1.cell 0
  have k1 := D1.cell 1
  simp at k0 k1
  go_wp2_with fail
  refine (docOkS_any a capf fs key p capc cs _ hzf HSF.out (HRF.out _ hw1) hk hzc HSC.out (HRC.out _ hw1)).mono ?_
  rintro e u2 ⟨rfl, hb2⟩
  have hw2 := below_trans hw1 hb2
  have hrf2 := HRF.out _ hw2
  clear hw1 hb2 D1 k0 k1 HRF HRC HSF HSC
  have HNO : Hid ((docOkB fs key cs && docH cs n && kindB fs n 2) = false → dnum fs key cs n = 0 ∧ dhas fs key cs n = false) := dnum_no
  have HYES : Hid (docOkB fs key cs = true → docH cs n = true → kindB fs n 2 = true → dnum fs key cs n = numV (docT cs n) ∧ dhas fs key cs n = true ∧ numT (docT cs n) = true) := dnum_yes
  cases hok : docOkB fs key cs with
  | false =>
    have HE := HNO.out (by rw [hok]; rfl)
    obtain ⟨e1, e2⟩ := HE
    clear HNO HYES hrf2 HSZ
    go_wp2
    go_ret2
    exact ⟨by rw [e1, e2]; rfl, hw2⟩
  | true =>
    cases hth : docH cs n with
    | false =>
      obtain ⟨e1, e2⟩ := HNO.out (by rw [hok, hth]; rfl)
      clear HNO HYES hrf2 HSZ
      go_wp2
      go_ret2
      exact ⟨by rw [e1, e2]; rfl, hw2⟩
    | true =>
      go_wp2_with fail
      refine (l2Kind_any a capf fs n 2 _ (by decide) hzf hrf2).mono ?_
      rintro e u3 ⟨rfl, rfl⟩
      cases hkb : kindB fs n 2 with
      | false =>
        obtain ⟨e1, e2⟩ := HNO.out (by rw [hok, hth, hkb]; rfl)
        clear HNO HYES hrf2 HSZ
        go_wp2
        go_ret2
        exact ⟨by rw [e1, e2]; rfl, hw2⟩
      | true =>
        obtain ⟨e1, e2, e3⟩ := HYES.out hok hth hkb
        clear HNO HYES hrf2
        go_wp2_with fail
        refine (l1Number_any (docT cs n) _ HSZ.out).mono ?_
        rintro e u4 ⟨v, rfl, hv, rfl⟩
        have hv2 := hv e3
        clear hv e3
        go_wp2
        go_ret2
        exact ⟨by rw [e1, e2, ← hv2]; rfl, hw2⟩
end Go.Proofs.YtjkimadnopeakaaGreatDoor
