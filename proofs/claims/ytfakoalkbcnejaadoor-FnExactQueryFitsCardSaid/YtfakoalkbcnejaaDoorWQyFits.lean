/- The walk of the law FnExactQueryFits. -/
import Derived.Test.YtfakoalkbcnejaaDoorQyFitsOk
import Derived.Test.YtfakoalkbcnejaaDoorQyTo
import Derived.Test.YtfakoalkbcnejaaDoorQySz
import Derived.Test.YtfakoalkbcnejaaDoorSzMore
namespace Go.Proofs.YtfakoalkbcnejaaDoor
open Go.RowKit
set_option linter.unusedVariables false

theorem toFieldS4_any (a : Option Addr) (cap : Nat) (fs : List Fld) (w : World) (hz : fs.length ≤ 1048576) (hr : FldRow w a fs) :
    Calls Tryd.prog 16 #[.slice a fs.length cap] w fun e w' => ∃ p c, e = .returned (.slice p fs.length c) ∧ fs.length ≤ c ∧ FldRow w' p fs ∧ Below w.heap.size w w' := by
  refine (toFieldS_any a cap fs w hz hr).mono ?_
  rintro e w' ⟨v, xs, rfl, ho, ht, hb⟩
  obtain ⟨p, c, rfl, hc, _, hrow⟩ := owns_fldRow ho ht
  exact ⟨p, c, rfl, hc, hrow, hb⟩
set_option maxRecDepth 100000 in
set_option maxHeartbeats 4000000 in
theorem wFnExactQueryFits (af : Option Addr) (capf : Nat) (fs : List Fld) (k : Int) (f t : ByteArray) (lo hi : Int) (ps : List Qy) (a : Option Addr) (c D : Nat) (w : World) (hm : MaxL w) (hzf : fs.length ≤ maxLen) (hsf : ∀ i, i < fs.length → (fat fs i).name.size ≤ maxLen) (hrf : FldRow w af fs) (hf : f.size ≤ maxLen) (ht : t.size ≤ maxLen) (ha : QAt w 0 D a ps) (hsz : QSz maxLen D ps) :
    Calls Tryd.prog 4 #[.slice af fs.length capf, .agg #[.int .i64 k, .string f, .string t, .int .i64 lo, .int .i64 hi, .slice a ps.length c]] w fun e w' => e = .returned (.bool true) ∧ Below w.heap.size w w' := by
  have hb0 : Below w.heap.size w (w.alloc (.cells #[.int .i64 k, .string f, .string t, .int .i64 lo, .int .i64 hi, .slice a ps.length c] 24)) := (Below.refl _ w).alloc (Nat.le_refl _) _
  have B0 := Blk.new w #[.int .i64 k, .string f, .string t, .int .i64 lo, .int .i64 hi, .slice a ps.length c] 24
  have HM : Hid (∀ wx, Below w.heap.size w wx → MaxL wx) := fun wx h => hm.below h
  have HA : Hid (∀ wx, Below w.heap.size w wx → QAt wx 0 D a ps) := fun wx h => ha.below h
  have HRF : Hid (∀ wx, Below w.heap.size w wx → FldRow wx af fs) := fun wx h => hrf.below h
  have HS0 : Hid (QSz maxLen D ps) := hsz
  clear hm ha hsz hrf
  go_enter Tryd.func4, Tryd.ntmps4
  go_wp2_with fail
  refine (szFieldSL_any af capf fs _ hzf hsf (HRF.out _ hb0)).mono ?_
  rintro e u0 ⟨r0, rfl, hr01, hrr0, hb1⟩
  have B1 := B0.below hb1 B0.lt
  have hw1 := below_trans hb0 hb1
  clear B0 hb0 hb1 hsf
  by_cases hneg0 : r0 < 0
  · go_wp2
    go_ret
    exact ⟨rfl, hw1⟩
  have hnd0 : decide (r0 < 0) = false := by simpa using hneg0
  obtain ⟨hz1, hsm1⟩ := hrr0 (by omega)
  have HSF : Hid (FldsSmall fs) := hsm1
  clear hsm1 hrr0
  have k0 := B1.cell 0
  have k1 := B1.cell 1
  have k2 := B1.cell 2
  have k3 := B1.cell 3
  have k4 := B1.cell 4
  have k5 := B1.cell 5
  simp at k0 k1 k2 k3 k4 k5
  go_wp2_with fail
  refine ((szQ_any D).1 k f t lo hi ps a c r0 _ (HA.out _ hw1) HS0.out hf ht (by omega) hr01).mono ?_
  rintro e u1 ⟨r, rfl, hr0, hr1, hrr, hb1⟩
  have B2 := B1.below hb1 B1.lt
  have hw2 := below_trans hw1 hb1
  clear k0 k1 k2 k3 k4 k5 B1 hb1 hw1 HS0
  by_cases hneg : r < 0
  · go_wp2
    go_ret
    exact ⟨rfl, hw2⟩
  have hnd : decide (r < 0) = false := by simpa using hneg
  obtain ⟨hf1, ht1, hs1⟩ := hrr (by omega)
  have HS : Hid (QSz 1048576 D ps) := hs1
  clear hs1 hrr
  have k0 := B2.cell 0
  have k1 := B2.cell 1
  have k2 := B2.cell 2
  have k3 := B2.cell 3
  have k4 := B2.cell 4
  have k5 := B2.cell 5
  simp at k0 k1 k2 k3 k4 k5
  have rf2 := HRF.out _ hw2
  have ra2 := HA.out _ hw2
  have HA2 : Hid (∀ wx, Below u1.heap.size u1 wx → QAt wx 0 D a ps) := fun wx h => ra2.below h
  have hl2 := B2.lt
  clear ra2
  go_wp2_with fail
  go_region_with (first
    | (go_at_call 16; refine (toFieldS4_any af capf fs _ hz1 (by exact rf2)).mono ?_; rintro e u3 ⟨p3, c3, rfl, hc3, r3, hb3d⟩; have hb3 : Below u1.heap.size u1 u3 := ⟨hb3d.os, hb3d.tape, hb3d.output, hb3d.size, hb3d.block⟩; clear hb3d; obtain ⟨hcl3, hfz3⟩ := bcell hb3; have q3 := HA2.out _ hb3)
    | (go_at_call 11; refine ((toQ_any D).1 k f t lo hi ps a c _ (by exact q3) HS.out).mono ?_; rintro e u4 ⟨p4, c4, rfl, q4, hb4⟩; have r4 := r3.below hb4; have q4a := q4.base (Nat.zero_le _))
    | (go_at_call 15; refine (queryFitsS_any p3 c3 fs k f t lo hi ps p4 c4 D _ hz1 HSF.out (by exact r4) (by exact q4a) HS.out hf1 ht1).mono ?_; rintro e u5 ⟨rfl, hb5⟩))
  all_goals
    have hb25 : Below u1.heap.size u1 u5 := below_trans hb3 (below_trans hb4 hb5)
    have B5 := B2.below hb25 B2.lt
    have hw5 := below_trans hw2 hb25
    clear k0 k1 k2 k3 k4 k5 B2 hb25 hw2 r3 r4 q3 q4 q4a rf2 HA2 hcl3 hfz3 hb3 hb4 hb5
    go_wp2_with fail
    refine (toFieldS4_any af capf fs _ hz1 (HRF.out _ hw5)).mono ?_
    rintro e u6 ⟨p6, c6, rfl, hc6, r6, hb6⟩
    have B6 := B5.below hb6 B5.lt
    have hw6 := below_trans hw5 hb6
    clear B5 hb6 hw5
    have k0 := B6.cell 0
    have k1 := B6.cell 1
    have k2 := B6.cell 2
    have k3 := B6.cell 3
    have k4 := B6.cell 4
    have k5 := B6.cell 5
    simp at k0 k1 k2 k3 k4 k5
    go_wp2_with fail
    refine ((toQ_any D).1 k f t lo hi ps a c _ (HA.out _ hw6) HS.out).mono ?_
    rintro e u7 ⟨p7, c7, rfl, q7, hb7⟩
    have hA7 : Below u7.heap.size u7 (u7.alloc (.cells #[.int .i64 k, .string f, .string t, .int .i64 lo, .int .i64 hi, .slice p7 ps.length c7] 29)) := (Below.refl _ _).alloc (Nat.le_refl _) _
    have r7 := (r6.below hb7).below hA7
    have q7a := (q7.base (Nat.zero_le _)).below hA7
    have B7 := (B6.below hb7 B6.lt).alloc (.cells #[.int .i64 k, .string f, .string t, .int .i64 lo, .int .i64 hi, .slice p7 ps.length c7] 29)
    have X7 := Blk.new u7 #[.int .i64 k, .string f, .string t, .int .i64 lo, .int .i64 hi, .slice p7 ps.length c7] 29
    have hw7 := below_trans (below_trans hw6 hb7) hA7
    clear k0 k1 k2 k3 k4 k5 B6 hb7 hw6 r6 q7 hA7
    go_wp2_with fail
    refine (queryFitsI_any p6 c6 fs k f t lo hi ps p7 c7 D _ hz1 hc6 HSF.out r7 q7a HS.out hf1 ht1 (HM.out _ hw7)).mono ?_
    rintro e u8 ⟨rfl, hb8⟩
    have r8 := r7.below hb8
    have q8 := q7a.below hb8
    have B8 := B7.below hb8 B7.lt
    have X8 := X7.below hb8 X7.lt
    have hw8 := below_trans hw7 hb8
    clear B7 X7 hb8 hw7 r7 q7a
    generalize fitsB fs D k f t lo hi ps = b at *
    go_wp2_with fail
    refine (toFieldS4_any af capf fs _ hz1 (HRF.out _ hw8)).mono ?_
    rintro e u9 ⟨p9, c9, rfl, hc9, r9, hb9⟩
    have r9b := r8.below hb9
    have q9 := q8.below hb9
    have B9 := B8.below hb9 B8.lt
    have X9 := X8.below hb9 X8.lt
    have hw9 := below_trans hw8 hb9
    clear B8 X8 hb9 hw8 r8 q8
    go_wp2_with fail
    refine (eqFieldS_same p6 p9 c6 c9 fs _ (by omega) r9b r9).mono ?_
    rintro e u10 ⟨rfl, hb10⟩
    have q10 := q9.below hb10
    have B10 := B9.below hb10 B9.lt
    have X10 := X9.below hb10 X9.lt
    have hw10 := below_trans hw9 hb10
    clear B9 X9 hb10 hw9 r9 r9b q9
    have k0 := B10.cell 0
    have k1 := B10.cell 1
    have k2 := B10.cell 2
    have k3 := B10.cell 3
    have k4 := B10.cell 4
    have k5 := B10.cell 5
    have x0 := X10.cell 0
    have x1 := X10.cell 1
    have x2 := X10.cell 2
    have x3 := X10.cell 3
    have x4 := X10.cell 4
    have x5 := X10.cell 5
    simp at k0 k1 k2 k3 k4 k5 x0 x1 x2 x3 x4 x5
    have r10 := (HA.out _ hw10).drew
    have hlB := B10.lt
    have hlX := X10.lt
    go_wp2_with fail
    go_region_with (first
      | (go_at_call 11; refine ((toQ_any D).1 k f t lo hi ps a c _ (by exact r10) HS.out).mono ?_; rintro e u11 ⟨p11, c11, rfl, q11, hb11d⟩; have hb11 : Below u10.heap.size u10 u11 := ⟨hb11d.os, hb11d.tape, hb11d.output, hb11d.size, hb11d.block⟩; clear hb11d; obtain ⟨hcl11, hfz11⟩ := bcell hb11; have q11b := q10.below hb11; have q11a := q11.base (Nat.zero_le _))
      | (go_at_call 13; refine ((eqQ_any D).1 k f t lo hi ps p7 p11 c7 c11 _ (by exact q11b) (by exact q11a) HS.out).mono ?_; rintro e u12 ⟨rfl, hb12d⟩; have hb12 : Below u11.heap.size u11 u12 := ⟨hb12d.os, hb12d.tape, hb12d.output, hb12d.size, hb12d.block⟩; clear hb12d))
    all_goals
      go_wp2
      go_ret
      exact ⟨rfl, below_trans hw10 (below_trans hb11 hb12)⟩
end Go.Proofs.YtfakoalkbcnejaaDoor
