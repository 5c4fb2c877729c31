/- DocOk of the program. -/
import Derived.Test.YtbifagdcnpnpjaaGreatMg0FnExactIndexOk
namespace Go.Proofs.YtbifagdcnpnpjaaGreat
open Go.RowKit
set_option linter.unusedVariables false

set_option maxRecDepth 100000 in
set_option maxHeartbeats 2000000 in
theorem docOkI_any (a : Option Addr) (capf : Nat) (fs : List Fld) (key : ByteArray) (p : Option Addr) (capc : Nat) (cs : List Cel) (w : World) (hzf : fs.length ≤ 1048576) (hcf : fs.length ≤ capf) (hsf : FldsSmall fs) (hrf : FldRow w a fs)
    (hk : key.size ≤ 1048576) (hzc : cs.length ≤ 1048576) (hsc : CelsSmall cs) (hrc : CelRow w p cs) (hm : MaxL w) :
    Calls Tryz.prog 70 #[.slice a fs.length capf, .agg #[.string key, .slice p cs.length capc]] w fun e w' => e = .returned (.bool (docOkB fs key cs)) ∧ Below w.heap.size w w' := by
  have hb0 : Below w.heap.size w (w.alloc (.cells #[.string key, .slice p cs.length capc] 39)) := (Below.refl _ w).alloc (Nat.le_refl _) _
  have B0 := Blk.new w #[.string key, .slice p cs.length capc] 39
  have hl0 := B0.lt
  have HSC : Hid (CelsSmall cs) := hsc
  have HRF : Hid (FldRow (w.alloc (.cells #[.string key, .slice p cs.length capc] 39)) a fs) := hrf.below hb0
  have HRC : Hid (CelRow (w.alloc (.cells #[.string key, .slice p cs.length capc] 39)) p cs) := hrc.below hb0
  have HM : Hid (MaxL (w.alloc (.cells #[.string key, .slice p cs.length capc] 39))) := hm.below hb0
  have HFI : Hid (∀ wx, FldRow wx a fs → Calls Tryz.prog 90 #[.slice a fs.length capf] wx fun e w' => e = .returned (.bool (fieldsB fs)) ∧ Below wx.heap.size wx w') := fun wx h => fieldsI_any a capf fs wx hzf hcf hsf h
  clear hsc hrf hrc hm hsf
  go_enter Tryz.func70, Tryz.ntmps70
  go_wp2_with fail
  refine (HFI.out _ HRF.out).mono ?_
  rintro e w1 ⟨rfl, hb1⟩
  have B1 := B0.below hb1 hl0
  have hl1 := B1.lt
  have hw1 := below_trans hb0 hb1
  have HRF1 : Hid (FldRow w1 a fs) := HRF.out.below hb1
  have HRC1 : Hid (CelRow w1 p cs) := HRC.out.below hb1
  have HM1 : Hid (MaxL w1) := HM.out.below hb1
  have k0 := B1.cell 0
  have k1 := B1.cell 1
  simp at k0 k1
  clear HRF HRC HM B0 hb0 HFI hb1
  cases hF : fieldsB fs with
  | false =>
    have HD : Hid (docOkB fs key cs = false) := by unfold Hid docOkB; rw [hF]; rfl
    go_wp2
    go_ret
    exact ⟨ret_bool HD.out.symm, hw1⟩
  | true =>
    go_wp2_with fail
    refine (form_any key p capc cs _ hk hzc HSC.out HRC1.out).mono ?_
    rintro e w2 ⟨rfl, hb2⟩
    have B2 := B1.below hb2 hl1
    have hw2 := below_trans hw1 hb2
    have HRF2 : Hid (FldRow w2 a fs) := HRF1.out.below hb2
    have HRC2 : Hid (CelRow w2 p cs) := HRC1.out.below hb2
    have HM2 : Hid (MaxL w2) := HM1.out.below hb2
    clear HRF1 HRC1 HM1 B1 k0 k1 hw1 hb2
    have k0 := B2.cell 0
    have k1 := B2.cell 1
    simp at k0 k1
    cases hG : formB key cs with
    | false =>
      have HD : Hid (docOkB fs key cs = false) := by unfold Hid docOkB; rw [hF, hG]; rfl
      go_wp2
      go_ret
      exact ⟨ret_bool HD.out.symm, hw2⟩
    | true =>
      have HDE : Hid (docOkB fs key cs = allTo (dcelOk fs cs) cs.length) := by unfold Hid docOkB; rw [hF, hG]; rfl
      clear hF hG
      go_wp2
      clear k0 k1 B2
      go_loopw [20] (fun i wr => ∃ k : Nat, k ≤ cs.length ∧ i = .int .i64 k ∧ allTo (dcelOk fs cs) k = true ∧ Below w2.heap.size w2 wr) (fun i _ => cs.length - (intOf i).toNat)
      case atStart => exact ⟨0, Nat.zero_le _, rfl, rfl, Below.refl _ _⟩
      case round =>
        obtain ⟨k, hk2, rfl, ha, hbel⟩ := hrel
        have HA : Hid (allTo (dcelOk fs cs) k = true) := ha
        clear ha
        have hbw := below_trans hw2 hbel
        by_cases hlt : k < cs.length
        · have hks : (k : Int) < (cs.length : Int) := by omega
          obtain ⟨g, off, rfl, hg, hc⟩ := (HRC2.out.below hbel) (by omega)
          obtain ⟨c0, c1⟩ := hc k hlt
          have hsz := HSC.out k hlt
          have HNO : Hid (dcelOk fs cs k = false → docOkB fs key cs = false) := docOk_no hlt
          have HYS : Hid (dcelOk fs cs k = true → allTo (dcelOk fs cs) (k + 1) = true) := fun h => allTo_snoc _ k HA.out h
          have HDF : Hid (dcelOk fs cs k = (decide (fidx fs (cat cs k).name < fs.length) && cellT (fat fs (fidx fs (cat cs k).name)).kind (cat cs k).text)) := rfl
          generalize cat cs k = cl at *
          obtain ⟨nm, tx⟩ := cl
          simp only at c0 c1 hsz HDF
          have hsb := hbel.size
          have hba : Below w2.heap.size w2 (wr.alloc (.cells #[.string nm, .string tx] 121)) := hbel.alloc hsb _
          have B6 := Blk.new wr #[.string nm, .string tx] 121
          have hl6 := B6.lt
          have HRA : Hid (FldRow (wr.alloc (.cells #[.string nm, .string tx] 121)) a fs) := HRF2.out.below hba
          have HMA : Hid (MaxL (wr.alloc (.cells #[.string nm, .string tx] 121))) := HM2.out.below hba
          clear hc
          go_wp2_with fail
          refine (fieldOf_any a capf fs nm _ hzf HRA.out).mono ?_
          rintro e w3 ⟨f, b, rfl, hff, hb3⟩
          have B7 := (B6.below hb3 hl6).alloc (.cells #[.string f.name, .int .i64 f.kind, .int .i64 f.weight] 123)
          have C7 := Blk.new w3 #[.string f.name, .int .i64 f.kind, .int .i64 f.weight] 123
          have hb3a : Below (wr.alloc (.cells #[.string nm, .string tx] 121)).heap.size (wr.alloc (.cells #[.string nm, .string tx] 121)) (w3.alloc (.cells #[.string f.name, .int .i64 f.kind, .int .i64 f.weight] 123)) := hb3.alloc hb3.size _
          have HM7 : Hid (MaxL (w3.alloc (.cells #[.string f.name, .int .i64 f.kind, .int .i64 f.weight] 123))) := HMA.out.below hb3a
          have hw7 : Below w2.heap.size w2 (w3.alloc (.cells #[.string f.name, .int .i64 f.kind, .int .i64 f.weight] 123)) := hba.trans (hb3a.mono hba.size)
          have hf2 := found_idx hff
          clear HRA HMA B6 hb3a hba hff c0 c1
          rcases hf2 with ⟨rfl, hi1, hi2⟩ | ⟨rfl, hi1⟩
          · have HDF2 : Hid (dcelOk fs cs k = cellT f.kind tx) := by unfold Hid; rw [HDF.out, decide_eq_true hi1, ← hi2]; rfl
            clear HDF hi1 hi2
            obtain ⟨fn, kd, wt⟩ := f
            simp only at B7 C7 HM7 hw7 HDF2
            have y1 := B7.cell 1
            simp at y1
            clear B7 C7
            by_cases h2 : kd = 2
            · subst h2
              have HCT : Hid (cellT 2 tx = numT tx) := rfl
              go_wp2_with fail
              refine (contentOf_any 2 tx _).mono ?_
              rintro e w8 ⟨rfl, rfl⟩
              rw [show ctype 2 = 165 from rfl]
              go_wp2_with fail
              refine (numOk_any tx _ hsz.2).mono ?_
              rintro e w9 ⟨rfl, hb9⟩
              have hw9 := hw7.trans (hb9.mono hw7.size)
              cases hb : numT tx with
              | false =>
                have HF : Hid (docOkB fs key cs = false) := HNO.out (by rw [HDF2.out, HCT.out, hb])
                go_wp2
                go_ret
                exact ⟨ret_bool HF.out.symm, below_trans hw2 hw9⟩
              | true =>
                have HY : Hid (allTo (dcelOk fs cs) (k + 1) = true) := HYS.out (by rw [HDF2.out, HCT.out, hb])
                go_wp2
                go_roundw
                case rel => exact ⟨k + 1, by omega, by go_num, HY.out, hw9⟩
                case measure => simp [intOf]; omega
            by_cases h3 : kd = 3
            · subst h3
              have HCT : Hid (cellT 3 tx = tagT tx) := rfl
              go_wp2_with fail
              refine (contentOf_any 3 tx _).mono ?_
              rintro e w8 ⟨rfl, rfl⟩
              rw [show ctype 3 = 166 from rfl]
              go_wp2_with fail
              refine (tagOk_any tx _ hsz.2 HM7.out).mono ?_
              rintro e w9 ⟨rfl, hb9⟩
              have hw9 := hw7.trans (hb9.mono hw7.size)
              cases hb : tagT tx with
              | false =>
                have HF : Hid (docOkB fs key cs = false) := HNO.out (by rw [HDF2.out, HCT.out, hb])
                go_wp2
                go_ret
                exact ⟨ret_bool HF.out.symm, below_trans hw2 hw9⟩
              | true =>
                have HY : Hid (allTo (dcelOk fs cs) (k + 1) = true) := HYS.out (by rw [HDF2.out, HCT.out, hb])
                go_wp2
                go_roundw
                case rel => exact ⟨k + 1, by omega, by go_num, HY.out, hw9⟩
                case measure => simp [intOf]; omega
            · have HCT : Hid (cellT kd tx = textB tx) := by unfold Hid cellT; rw [if_neg h2, if_neg h3]
              have HTY : Hid (ctype kd = 167) := by unfold Hid ctype; rw [if_neg h2, if_neg h3]
              go_wp2_with fail
              refine (contentOf_any kd tx _).mono ?_
              rintro e w8 ⟨rfl, rfl⟩
              rw [HTY.out]
              go_wp2_with fail
              refine (textCOk_any tx _ hsz.2).mono ?_
              rintro e w9 ⟨rfl, hb9⟩
              have hw9 := hw7.trans (hb9.mono hw7.size)
              cases hb : textB tx with
              | false =>
                have HF : Hid (docOkB fs key cs = false) := HNO.out (by rw [HDF2.out, HCT.out, hb])
                go_wp2
                go_ret
                exact ⟨ret_bool HF.out.symm, below_trans hw2 hw9⟩
              | true =>
                have HY : Hid (allTo (dcelOk fs cs) (k + 1) = true) := HYS.out (by rw [HDF2.out, HCT.out, hb])
                go_wp2
                go_roundw
                case rel => exact ⟨k + 1, by omega, by go_num, HY.out, hw9⟩
                case measure => simp [intOf]; omega
          · have HF : Hid (docOkB fs key cs = false) := HNO.out (by rw [HDF.out, hi1]; simp)
            go_wp2
            go_ret
            exact ⟨ret_bool HF.out.symm, below_trans hw2 hw7⟩
        · have hkl : k = cs.length := by omega
          subst hkl
          have HT : Hid (docOkB fs key cs = true) := by unfold Hid; rw [HDE.out]; exact HA.out
          go_wp2
          go_ret
          exact ⟨ret_bool HT.out.symm, hbw⟩
end Go.Proofs.YtbifagdcnpnpjaaGreat
