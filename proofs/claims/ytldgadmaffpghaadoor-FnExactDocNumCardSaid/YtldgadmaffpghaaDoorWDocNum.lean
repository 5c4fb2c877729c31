/- The walk of the law FnExactDocNum. -/
import Derived.Test.YtldgadmaffpghaaDoorDocNumS
import Derived.Test.YtldgadmaffpghaaDoorSzMore
namespace Go.Proofs.YtldgadmaffpghaaDoor
open Go.RowKit
set_option linter.unusedVariables false

theorem toFieldS3_any (a : Option Addr) (cap : Nat) (fs : List Fld) (w : World) (hz : fs.length ≤ 1048576) (hr : FldRow w a fs) :
    Calls Tryd.prog 8 #[.slice a fs.length cap] w fun e w' => ∃ p c, e = .returned (.slice p fs.length c) ∧ fs.length ≤ c ∧ FldRow w' p fs ∧ Below w.heap.size w w' := by
  refine (toFieldS_any a cap fs w hz hr).mono ?_
  rintro e w' ⟨v, xs, rfl, ho, ht, hb⟩
  obtain ⟨p, c, rfl, hc, _, hrow⟩ := owns_fldRow ho ht
  exact ⟨p, c, rfl, hc, hrow, hb⟩
set_option maxRecDepth 100000 in
set_option maxHeartbeats 2000000 in
theorem wFnExactDocNum (nm : ByteArray) (af : Option Addr) (capf : Nat) (fs : List Fld) (key : ByteArray) (a0 : Option Addr) (cap0 : Nat) (cs : List Cel) (w : World) (hm : MaxL w) (hzf : fs.length ≤ maxLen) (hsf : ∀ i, i < fs.length → (fat fs i).name.size ≤ maxLen) (hrf : FldRow w af fs)
    (hk : key.size ≤ maxLen) (hz : cs.length ≤ maxLen) (hsm : ∀ i, i < cs.length → (cat cs i).name.size ≤ maxLen ∧ (cat cs i).text.size ≤ maxLen) (hr : CelRow w a0 cs) :
    Calls Tryd.prog 3 #[.slice af fs.length capf, .agg #[.string key, .slice a0 cs.length cap0], .string nm] w fun e w' => e = .returned (.bool true) ∧ Below w.heap.size w w' := by
  have hb0 : Below w.heap.size w (w.alloc (.cells #[.string key, .slice a0 cs.length cap0] 25)) := (Below.refl _ w).alloc (Nat.le_refl _) _
  have B0 := Blk.new w #[.string key, .slice a0 cs.length cap0] 25
  have hl0 := B0.lt
  have HM : Hid (∀ wx, Below w.heap.size w wx → MaxL wx) := fun wx h => hm.below h
  have HRF : Hid (∀ wx, Below w.heap.size w wx → FldRow wx af fs) := fun wx h => hrf.below h
  have HRC : Hid (∀ wx, Below w.heap.size w wx → CelRow wx a0 cs) := fun wx h => hr.below h
  have HSM0 : Hid (∀ i, i < cs.length → (cat cs i).name.size ≤ maxLen ∧ (cat cs i).text.size ≤ maxLen) := hsm
  clear hm hrf hr hsm
  by_cases hnm : (1048576 : Int) < (nm.size : Int)
  · clear HM HRF HRC HSM0 hsf
    go_enter Tryd.func3, Tryd.ntmps3
    go_wp2
    go_ret
    exact ⟨rfl, hb0⟩
  have hnd0 : decide ((1048576 : Int) < (nm.size : Int)) = false := by simpa using hnm
  go_enter Tryd.func3, Tryd.ntmps3
  go_wp2_with fail
  refine (szFieldSL_any af capf fs _ hzf hsf (HRF.out _ hb0)).mono ?_
  rintro e u1 ⟨r, rfl, hr1, hrr, hb1⟩
  have B1 := B0.below hb1 hl0
  have hw1 := below_trans hb0 hb1
  have k0 := B1.cell 0
  have k1 := B1.cell 1
  simp at k0 k1
  clear B0 hb0 hb1 hsf
  by_cases hneg : r < 0
  · go_wp2
    go_ret
    exact ⟨rfl, hw1⟩
  have hnd : decide (r < 0) = false := by simpa using hneg
  obtain ⟨hz1, hsm1⟩ := hrr (by omega)
  have HSF : Hid (FldsSmall fs) := hsm1
  clear hsm1 hrr
  go_wp2_with fail
  refine (szDocL_any key a0 cap0 cs r _ (by omega) hr1 hk hz HSM0.out (HRC.out _ hw1)).mono ?_
  rintro e u2 ⟨r2, rfl, hrr2, hb2⟩
  have B2 := B1.below hb2 B1.lt
  have hw2 := below_trans hw1 hb2
  clear k0 k1 B1 hb2 hw1 HSM0
  have k0 := B2.cell 0
  have k1 := B2.cell 1
  simp at k0 k1
  by_cases hneg2 : r2 < 0
  · go_wp2
    go_ret
    exact ⟨rfl, hw2⟩
  have hnd2 : decide (r2 < 0) = false := by simpa using hneg2
  obtain ⟨hk2, hz2, hs2⟩ := hrr2 (by omega)
  have HSC : Hid (CelsSmall cs) := hs2
  clear hs2 hrr2
  have rf2 := HRF.out _ hw2
  have rc2 := HRC.out _ hw2
  have hl2 := B2.lt
  go_wp2_with fail
  go_region_with (first
    | (go_at_call 8; refine (toFieldS3_any af capf fs _ hz1 (by exact rf2)).mono ?_; rintro e u3 ⟨p3, c3, rfl, hc3, r3, hb3d⟩; have hb3 : Below u2.heap.size u2 u3 := ⟨hb3d.os, hb3d.tape, hb3d.output, hb3d.size, hb3d.block⟩; clear hb3d; obtain ⟨hcl3, hfz3⟩ := bcell hb3; have q3 := rc2.below hb3)
    | (go_at_call 9; refine (toDoc_any key a0 cap0 cs _ hz2 (by exact q3)).mono ?_; rintro e u4 ⟨p4, c4, rfl, hc4, _, _, q4, hb4⟩; have r4 := r3.below hb4)
    | (go_at_call 7; refine (docNumS_any p3 c3 fs key p4 c4 cs nm _ hz1 HSF.out (by exact r4) hk2 hz2 HSC.out (by exact q4)).mono ?_; rintro e u5 ⟨rfl, hb5⟩))
  all_goals
    have hb25 : Below u2.heap.size u2 u5 := below_trans hb3 (below_trans hb4 hb5)
    have B5 := B2.below hb25 B2.lt
    have hw5 := below_trans hw2 hb25
    clear k0 k1 B2 hb25 hw2 r3 r4 q3 q4 rf2 rc2 hcl3 hfz3 hb3 hb4 hb5
    have k0 := B5.cell 0
    have k1 := B5.cell 1
    simp at k0 k1
    go_wp2_with fail
    refine (toFieldS3_any af capf fs _ hz1 (HRF.out _ hw5)).mono ?_
    rintro e u6 ⟨p6, c6, rfl, hc6, r6, hb6⟩
    have B6 := B5.below hb6 B5.lt
    have hw6 := below_trans hw5 hb6
    clear k0 k1 B5 hb6 hw5
    have k0 := B6.cell 0
    have k1 := B6.cell 1
    simp at k0 k1
    go_wp2_with fail
    refine (toDoc_any key a0 cap0 cs _ hz2 (HRC.out _ hw6)).mono ?_
    rintro e u7 ⟨p7, c7, rfl, hc7, _, _, q7, hb7⟩
    have hA : Below u7.heap.size u7 (u7.alloc (.cells #[.string key, .slice p7 cs.length c7] 34)) := (Below.refl _ _).alloc (Nat.le_refl _) _
    have r7 := (r6.below hb7).below hA
    have q7a := q7.below hA
    have B7 := (B6.below hb7 B6.lt).alloc (.cells #[.string key, .slice p7 cs.length c7] 34)
    have X7 := Blk.new u7 #[.string key, .slice p7 cs.length c7] 34
    have hw7 := below_trans (below_trans hw6 hb7) hA
    clear k0 k1 B6 hb7 hw6 r6 q7 hA
    go_wp2_with fail
    refine (docNumI_any p6 c6 fs key p7 c7 cs nm _ hz1 hc6 HSF.out r7 hk2 hz2 HSC.out q7a (HM.out _ hw7)).mono ?_
    rintro e u8 ⟨rfl, hb8⟩
    have r8 := r7.below hb8
    have q8 := q7a.below hb8
    have B8 := B7.below hb8 B7.lt
    have X8 := X7.below hb8 X7.lt
    have hw8 := below_trans hw7 hb8
    clear B7 X7 hb8 hw7 r7 q7a
    have k0 := B8.cell 0
    have k1 := B8.cell 1
    have x0 := X8.cell 0
    have x1 := X8.cell 1
    simp at k0 k1 x0 x1
    generalize dnum fs key cs nm = x at *
    generalize dhas fs key cs nm = b at *
    go_wp2_with fail
    refine (toFieldS3_any af capf fs _ hz1 (HRF.out _ hw8)).mono ?_
    rintro e u9 ⟨p9, c9, rfl, hc9, r9, hb9⟩
    have r9b := r8.below hb9
    have q9 := q8.below hb9
    have B9 := B8.below hb9 B8.lt
    have X9 := X8.below hb9 X8.lt
    have hw9 := below_trans hw8 hb9
    clear k0 k1 x0 x1 B8 X8 hb9 hw8 r8 q8
    go_wp2_with fail
    refine (eqFieldS_same p6 p9 c6 c9 fs _ (by omega) r9b r9).mono ?_
    rintro e u10 ⟨rfl, hb10⟩
    have q10 := q9.below hb10
    have B10 := B9.below hb10 B9.lt
    have X10 := X9.below hb10 X9.lt
    have hw10 := below_trans hw9 hb10
    clear B9 X9 hb10 hw9 r9 r9b q9
    have k0 := B10.cell 0
    have k1 := B10.cell 1
    have x0 := X10.cell 0
    have x1 := X10.cell 1
    simp at k0 k1 x0 x1
    have r10 := HRC.out _ hw10
    have hlB := B10.lt
    have hlX := X10.lt
    go_wp2_with fail
    go_region_with (first
      | (go_at_call 9; refine (toDoc_any key a0 cap0 cs _ hz2 (by exact r10)).mono ?_; rintro e u11 ⟨p11, c11, rfl, hc11, _, _, q11, hb11d⟩; have hb11 : Below u10.heap.size u10 u11 := ⟨hb11d.os, hb11d.tape, hb11d.output, hb11d.size, hb11d.block⟩; clear hb11d; obtain ⟨hcl11, hfz11⟩ := bcell hb11; have q11b := q10.below hb11)
      | (go_at_call 12; refine (eqDoc_same key p7 p11 c7 c11 cs _ (by omega) (by exact q11b) (by exact q11)).mono ?_; rintro e u12 ⟨rfl, hb12d⟩; have hb12 : Below u11.heap.size u11 u12 := ⟨hb12d.os, hb12d.tape, hb12d.output, hb12d.size, hb12d.block⟩; clear hb12d))
    all_goals
      go_wp2
      go_ret
      exact ⟨rfl, below_trans hw10 (below_trans hb11 hb12)⟩
end Go.Proofs.YtldgadmaffpghaaDoor
