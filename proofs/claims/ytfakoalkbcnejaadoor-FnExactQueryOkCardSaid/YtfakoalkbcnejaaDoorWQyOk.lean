/- The walk of the law FnExactQueryOk. -/
import Derived.Test.YtfakoalkbcnejaaDoorQyOk
import Derived.Test.YtfakoalkbcnejaaDoorQyTo
import Derived.Test.YtfakoalkbcnejaaDoorQySz
namespace Go.Proofs.YtfakoalkbcnejaaDoor
open Go.RowKit
set_option linter.unusedVariables false

set_option maxRecDepth 100000 in
set_option maxHeartbeats 2000000 in
theorem wFnExactQueryOk (k : Int) (f t : ByteArray) (lo hi : Int) (ps : List Qy) (a : Option Addr) (c D : Nat) (w : World) (hm : MaxL w) (hf : f.size ≤ maxLen) (ht : t.size ≤ maxLen) (ha : QAt w 0 D a ps) (hsz : QSz maxLen D ps) :
    Calls Tryd.prog 3 #[.agg #[.int .i64 k, .string f, .string t, .int .i64 lo, .int .i64 hi, .slice a ps.length c]] w fun e w' => e = .returned (.bool true) ∧ Below w.heap.size w w' := by
  have hb0 : Below w.heap.size w (w.alloc (.cells #[.int .i64 k, .string f, .string t, .int .i64 lo, .int .i64 hi, .slice a ps.length c] 24)) := (Below.refl _ w).alloc (Nat.le_refl _) _
  have B0 := Blk.new w #[.int .i64 k, .string f, .string t, .int .i64 lo, .int .i64 hi, .slice a ps.length c] 24
  have HM : Hid (∀ wx, Below w.heap.size w wx → MaxL wx) := fun wx h => hm.below h
  have HA : Hid (∀ wx, Below w.heap.size w wx → QAt wx 0 D a ps) := fun wx h => ha.below h
  have HS0 : Hid (QSz maxLen D ps) := hsz
  clear hm ha hsz
  go_enter Tryd.func3, Tryd.ntmps3
  go_wp2_with fail
  refine ((szQ_any D).1 k f t lo hi ps a c 1048576 _ (HA.out _ hb0) HS0.out hf ht (by decide) (by decide)).mono ?_
  rintro e u1 ⟨r, rfl, hr0, hr1, hrr, hb1⟩
  have B1 := B0.below hb1 B0.lt
  have hw1 := below_trans hb0 hb1
  clear B0 hb0 hb1 HS0
  by_cases hneg : r < 0
  · go_wp2
    go_ret
    exact ⟨rfl, hw1⟩
  have hnd : decide (r < 0) = false := by simpa using hneg
  obtain ⟨hf1, ht1, hs1⟩ := hrr (by omega)
  have HS : Hid (QSz 1048576 D ps) := hs1
  clear hs1 hrr
  have k0 := B1.cell 0
  have k1 := B1.cell 1
  have k2 := B1.cell 2
  have k3 := B1.cell 3
  have k4 := B1.cell 4
  have k5 := B1.cell 5
  simp at k0 k1 k2 k3 k4 k5
  go_wp2_with fail
  refine ((toQ_any D).1 k f t lo hi ps a c u1 (HA.out _ hw1) HS.out).mono ?_
  rintro e u2 ⟨p2, c2, rfl, q2, hb2⟩
  go_wp2_with fail
  refine (queryOkS_any k f t lo hi ps p2 c2 D u2 (q2.base (Nat.zero_le _)) HS.out hf1 ht1).mono ?_
  rintro e u3 ⟨rfl, hb3⟩
  have B3 := B1.below (below_trans hb2 hb3) B1.lt
  have hw3 := below_trans hw1 (below_trans hb2 hb3)
  clear k0 k1 k2 k3 k4 k5 B1 hb2 hb3 hw1 q2
  have k0 := B3.cell 0
  have k1 := B3.cell 1
  have k2 := B3.cell 2
  have k3 := B3.cell 3
  have k4 := B3.cell 4
  have k5 := B3.cell 5
  simp at k0 k1 k2 k3 k4 k5
  go_wp2_with fail
  refine ((toQ_any D).1 k f t lo hi ps a c u3 (HA.out _ hw3) HS.out).mono ?_
  rintro e u4 ⟨p4, c4, rfl, q4, hb4⟩
  have hA4 : Below u4.heap.size u4 (u4.alloc (.cells #[.int .i64 k, .string f, .string t, .int .i64 lo, .int .i64 hi, .slice p4 ps.length c4] 29)) := (Below.refl _ _).alloc (Nat.le_refl _) _
  have q4a := (q4.base (Nat.zero_le _)).below hA4
  have B4 := (B3.below hb4 B3.lt).alloc (.cells #[.int .i64 k, .string f, .string t, .int .i64 lo, .int .i64 hi, .slice p4 ps.length c4] 29)
  have X4 := Blk.new u4 #[.int .i64 k, .string f, .string t, .int .i64 lo, .int .i64 hi, .slice p4 ps.length c4] 29
  have hw4 := below_trans (below_trans hw3 hb4) hA4
  clear k0 k1 k2 k3 k4 k5 B3 hb4 hw3 q4 hA4
  go_wp2_with fail
  refine (queryOkI_any k f t lo hi ps p4 c4 D _ q4a HS.out hf1 ht1 (HM.out _ hw4)).mono ?_
  rintro e u5 ⟨rfl, hb5⟩
  have q5 := q4a.below hb5
  have B5 := B4.below hb5 B4.lt
  have X5 := X4.below hb5 X4.lt
  have hw5 := below_trans hw4 hb5
  clear B4 X4 hb5 hw4 q4a
  have k0 := B5.cell 0
  have k1 := B5.cell 1
  have k2 := B5.cell 2
  have k3 := B5.cell 3
  have k4 := B5.cell 4
  have k5 := B5.cell 5
  have x0 := X5.cell 0
  have x1 := X5.cell 1
  have x2 := X5.cell 2
  have x3 := X5.cell 3
  have x4 := X5.cell 4
  have x5 := X5.cell 5
  simp at k0 k1 k2 k3 k4 k5 x0 x1 x2 x3 x4 x5
  generalize queryB k f t lo hi ps = b at *
  have r5 := (HA.out _ hw5).drew
  have hlB := B5.lt
  have hlX := X5.lt
  go_wp2_with fail
  go_region_with (first
    | (go_at_call 11; refine ((toQ_any D).1 k f t lo hi ps a c _ (by exact r5) HS.out).mono ?_; rintro e u6 ⟨p6, c6, rfl, q6, hb6d⟩; have hb6 : Below u5.heap.size u5 u6 := ⟨hb6d.os, hb6d.tape, hb6d.output, hb6d.size, hb6d.block⟩; clear hb6d; obtain ⟨hcl6, hfz6⟩ := bcell hb6; have q6b := q5.below hb6; have q6a := q6.base (Nat.zero_le _))
    | (go_at_call 13; refine ((eqQ_any D).1 k f t lo hi ps p4 p6 c4 c6 _ (by exact q6b) (by exact q6a) HS.out).mono ?_; rintro e u7 ⟨rfl, hb7d⟩; have hb7 : Below u6.heap.size u6 u7 := ⟨hb7d.os, hb7d.tape, hb7d.output, hb7d.size, hb7d.block⟩; clear hb7d))
  all_goals
    go_wp2
    go_ret
    exact ⟨rfl, below_trans hw5 (below_trans hb6 hb7)⟩
end Go.Proofs.YtfakoalkbcnejaaDoor
