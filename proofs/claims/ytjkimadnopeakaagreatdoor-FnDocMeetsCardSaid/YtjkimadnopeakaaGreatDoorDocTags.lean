/- DocTags of the program and of the model. -/
import Derived.Test.YtjkimadnopeakaaGreatDoorDocNumS
import Derived.Test.YtjkimadnopeakaaGreatDoorL2Tags
namespace Go.Proofs.YtjkimadnopeakaaGreatDoor
open Go.RowKit
set_option linter.unusedVariables false

def dtags (fs : List Fld) (key : ByteArray) (cs : List Cel) (n : ByteArray) : List ByteArray := if toldK fs key cs n = 3 then namesL (docT cs n) else []
theorem ok_tag {fs : List Fld} {key : ByteArray} {cs : List Cel} {n : ByteArray} (h1 : docOkB fs key cs = true) (h2 : docH cs n = true) (h3 : kindB fs n 3 = true) : tagT (docT cs n) = true := by
  unfold docH at h2
  unfold docT
  cases e : cs.find? (isC n) with
  | none => rw [e] at h2; cases h2
  | some c =>
    obtain ⟨i, hi, rfl⟩ := List.getElem_of_mem (List.mem_of_find?_eq_some e)
    have hn := List.find?_some e
    unfold docOkB at h1
    have h4 := (allTo_iff _ _).1 (by have := h1; simp only [Bool.and_eq_true] at this; exact this.2) i hi
    unfold dcelOk at h4
    rw [cat_get cs i hi] at h4
    have hnm : cs[i].name = n := by
      unfold isC at hn
      have := eq_of_beq hn
      rw [ByteArray.toList_eq, ByteArray.toList_eq] at this
      exact ba_ext this
    rw [hnm] at h4
    unfold kindB at h3
    have hk : (fat fs (fidx fs n)).kind = 3 := eq_of_beq h3
    rw [hk] at h4
    simp only [Bool.and_eq_true] at h4
    exact h4.2
theorem dtags_no {fs : List Fld} {key : ByteArray} {cs : List Cel} {n : ByteArray} (h : (docOkB fs key cs && docH cs n && kindB fs n 3) = false) : dtags fs key cs n = [] := by
  have hk : toldK fs key cs n ≠ 3 := by
    unfold toldK
    cases e : (docOkB fs key cs && docH cs n) with
    | false => simp
    | true =>
      rw [e] at h
      unfold kindB at h
      simpa using h
  unfold dtags
  rw [if_neg hk]
theorem dtags_yes {fs : List Fld} {key : ByteArray} {cs : List Cel} {n : ByteArray} (h1 : docOkB fs key cs = true) (h2 : docH cs n = true) (h3 : kindB fs n 3 = true) : insAll (tparts (docT cs n)) = dtags fs key cs n ∧ tagT (docT cs n) = true := by
  have hk : toldK fs key cs n = 3 := (toldK_yes h1 h2).trans (eq_of_beq h3)
  unfold dtags
  rw [if_pos hk]
  exact ⟨ins_names _, ok_tag h1 h2 h3⟩
theorem TagsV.own {b0 : Nat} {w : World} {fs : List Fld} {key : ByteArray} {cs : List Cel} {n : ByteArray} {v : Value} (h : TagsV b0 w (toldK fs key cs n) (docT cs n) v) : w.ownsRow b0 9 1 v (dtags fs key cs n).length ((dtags fs key cs n).map Value.string) := by
  unfold dtags
  rcases h with ⟨h1, g, c, rfl, h2, h3, h4⟩ | ⟨h1, rfl⟩
  · rw [if_pos h1]
    exact ownsRow_mono h4 h3
  · rw [if_neg h1]
    exact World.ownsRow_nil _ _ _ _

theorem dtags_len {fs : List Fld} {key : ByteArray} {cs : List Cel} {n : ByteArray} (h : CelsSmall cs) : (dtags fs key cs n).length ≤ 2000000 := by
  unfold dtags
  split
  · have h1 := docT_size h n
    have h2 : (tparts (docT cs n)).length = manyB 44 (docT cs n) + 1 := cuts_full_len 44 _
    have h3 := manyB_le 44 (docT cs n)
    have h4 := Lib.compact_length_le (sortedL (docT cs n))
    rw [sortedL_len] at h4
    unfold namesL
    rw [List.length_map]
    omega
  · exact Nat.zero_le _
theorem told_tags (x : Int) (y : Bool) (q : Option Addr) (l c : Nat) (w : World) : (Instr.field 105 (.agg #[.int .i64 x, .bool y, .slice q l c]) 2).run Tryz.prog w = .ok (.slice q l c) w := by kernel_rfl
attribute [local go_sem] told_tags
set_option maxHeartbeats 1000000 in
set_option maxRecDepth 100000 in
theorem docTagsI_any (a : Option Addr) (capf : Nat) (fs : List Fld) (key : ByteArray) (p : Option Addr) (capc : Nat) (cs : List Cel) (n : ByteArray) (w : World) (hzf : fs.length ≤ 1048576) (hcf : fs.length ≤ capf) (hsf : FldsSmall fs) (hrf : FldRow w a fs)
    (hk : key.size ≤ 1048576) (hzc : cs.length ≤ 1048576) (hsc : CelsSmall cs) (hrc : CelRow w p cs) (hm : MaxL w) :
    Calls Tryz.prog 35 #[.slice a fs.length capf, .agg #[.string key, .slice p cs.length capc], .string n] w fun e w' => ∃ v, e = .returned v ∧ w'.ownsRow w.heap.size 9 1 v (dtags fs key cs n).length ((dtags fs key cs n).map Value.string) ∧ Below w.heap.size w w' := by
  have hb0 : Below w.heap.size w (w.alloc (.cells #[.string key, .slice p cs.length capc] 37)) := (Below.refl _ w).alloc (Nat.le_refl _) _
  have HT : Hid (∀ wx, Below w.heap.size w wx → Calls Tryz.prog 71 #[.slice a fs.length capf, .agg #[.string key, .slice p cs.length capc], .string n] wx fun e w' => ∃ v, e = .returned (.agg #[.int .i64 (dnum fs key cs n), .bool (dhas fs key cs n), v]) ∧ TagsV wx.heap.size w' (toldK fs key cs n) (docT cs n) v ∧ Below wx.heap.size wx w') := fun wx h => docTold_any a capf fs key p capc cs n wx hzf hcf hsf (hrf.below h) hk hzc hsc (hrc.below h) (hm.below h)
  clear hsf hrf hsc hrc hm
  generalize dnum fs key cs n = x at *
  generalize dhas fs key cs n = y at *
  go_enter Tryz.func35, Tryz.ntmps35
  go_wp2_with fail
  refine (HT.out _ hb0).mono ?_
  rintro e u1 ⟨v, rfl, htv, hb1⟩
  obtain ⟨vq, vl, vc, rfl⟩ := htv.slice
  have hw1 := below_trans hb0 hb1
  have HO : Hid (u1.ownsRow w.heap.size 9 1 (.slice vq vl vc) (dtags fs key cs n).length ((dtags fs key cs n).map Value.string)) := ownsRow_mono htv.own (by simp)
  clear HT htv hb1 hb0
  go_wp2
  go_ret
  exact ⟨_, rfl, HO.out, hw1⟩

set_option maxHeartbeats 1000000 in
set_option maxRecDepth 100000 in
theorem docTagsS_any (a : Option Addr) (capf : Nat) (fs : List Fld) (key : ByteArray) (p : Option Addr) (capc : Nat) (cs : List Cel) (n : ByteArray) (w : World) (hzf : fs.length ≤ 1048576) (hsf : FldsSmall fs) (hrf : FldRow w a fs)
    (hk : key.size ≤ 1048576) (hzc : cs.length ≤ 1048576) (hsc : CelsSmall cs) (hrc : CelRow w p cs) :
    Calls Tryz.prog 118 #[.slice a fs.length capf, .agg #[.string key, .slice p cs.length capc], .string n] w fun e w' => ∃ v, e = .returned v ∧ w'.ownsRow w.heap.size 9 1 v (dtags fs key cs n).length ((dtags fs key cs n).map Value.string) ∧ Below w.heap.size w w' := by
  have hb0 : Below w.heap.size w (w.alloc (.cells #[.string key, .slice p cs.length capc] 37)) := (Below.refl _ w).alloc (Nat.le_refl _) _
  have D0 := Blk.new w #[.string key, .slice p cs.length capc] 37
  have HRF : Hid (∀ wx, Below w.heap.size w wx → FldRow wx a fs) := fun wx h => hrf.below h
  have HRC : Hid (∀ wx, Below w.heap.size w wx → CelRow wx p cs) := fun wx h => hrc.below h
  have HSZ : Hid ((docT cs n).size ≤ 1048576) := docT_size hsc n
  have HSF : Hid (FldsSmall fs) := hsf
  have HSC : Hid (CelsSmall cs) := hsc
  have HLIT : Hid (∀ wx, Below w.heap.size w wx → (wx.alloc (.cells #[] 9)).ownsRow w.heap.size 9 1 (.slice (some ⟨wx.heap.size, 0, none⟩) 0 0) 0 []) := fun wx h => ownsRow_mono (World.ownsRow_lit wx #[] 0 (Nat.le_refl _) (by decide) rfl) h.size
  clear hsf hrf hsc hrc
  go_enter Tryz.func118, Tryz.ntmps118
  go_wp2_with fail
  refine (docTextS_any key n p capc cs _ hzc (HRC.out _ hb0)).mono ?_
  rintro e u1 ⟨rfl, hb1⟩
  have D1 := D0.below hb1 D0.lt
  have hw1 := below_trans hb0 hb1
  clear hb0 hb1 D0
  have k0 := D1.cell 0
  have k1 := D1.cell 1
  simp at k0 k1
  go_wp2_with fail
  refine (docOkS_any a capf fs key p capc cs _ hzf HSF.out (HRF.out _ hw1) hk hzc HSC.out (HRC.out _ hw1)).mono ?_
  rintro e u2 ⟨rfl, hb2⟩
  have hw2 := below_trans hw1 hb2
  have hrf2 := HRF.out _ hw2
  have HL2 := HLIT.out _ hw2
  have HO2 : Hid ((u2.alloc (.cells #[] 9)).ownsRow w.heap.size 9 1 (.slice (some ⟨u2.heap.size, 0, none⟩) 0 0) 0 []) := HL2
  clear hw1 hb2 D1 k0 k1 HRF HRC HSF HSC HLIT HL2
  have HNO : Hid ((docOkB fs key cs && docH cs n && kindB fs n 3) = false → dtags fs key cs n = []) := dtags_no
  have HYES : Hid (docOkB fs key cs = true → docH cs n = true → kindB fs n 3 = true → insAll (tparts (docT cs n)) = dtags fs key cs n ∧ tagT (docT cs n) = true) := dtags_yes
  cases hok : docOkB fs key cs with
  | false =>
    have HE : Hid (dtags fs key cs n = []) := HNO.out (by rw [hok]; rfl)
    clear HNO HYES hrf2 HSZ
    go_wp2
    go_ret
    exact ⟨_, rfl, by rw [HE.out]; exact HO2.out, hw2.alloc hw2.size _⟩
  | true =>
    cases hth : docH cs n with
    | false =>
      have HE : Hid (dtags fs key cs n = []) := HNO.out (by rw [hok, hth]; rfl)
      clear HNO HYES hrf2 HSZ
      go_wp2
      go_ret
      exact ⟨_, rfl, by rw [HE.out]; exact HO2.out, hw2.alloc hw2.size _⟩
    | true =>
      go_wp2_with fail
      refine (l2Kind_any a capf fs n 3 _ (by decide) hzf hrf2).mono ?_
      rintro e u3 ⟨rfl, rfl⟩
      cases hkb : kindB fs n 3 with
      | false =>
        have HE : Hid (dtags fs key cs n = []) := HNO.out (by rw [hok, hth, hkb]; rfl)
        clear HNO HYES hrf2 HSZ
        go_wp2
        go_ret
        exact ⟨_, rfl, by rw [HE.out]; exact HO2.out, hw2.alloc hw2.size _⟩
      | true =>
        obtain ⟨e1, e3⟩ := HYES.out hok hth hkb
        clear HNO HYES hrf2 HO2
        go_wp2_with fail
        refine (l2TagsX_any (docT cs n) _ HSZ.out).mono ?_
        rintro e u4 ⟨g, c, ss, rfl, hss, hown, hb4⟩
        have he : ss = dtags fs key cs n := (hss e3).trans e1
        clear hss e1 e3
        have HO : Hid (u4.ownsRow w.heap.size 9 1 (.slice (some ⟨g, 0, none⟩) ss.length c) (dtags fs key cs n).length ((dtags fs key cs n).map Value.string)) := by
          have := ownsRow_mono hown hw2.size
          unfold Hid
          rw [he] at this ⊢
          exact this
        have hw4 := below_trans hw2 hb4
        clear hown he hb4 hw2
        go_wp2
        go_ret
        exact ⟨_, rfl, HO.out, hw4⟩
end Go.Proofs.YtjkimadnopeakaaGreatDoor
