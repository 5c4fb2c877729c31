/- The walk of the law FnExactServerNew. -/
import Derived.Test.YtdijgdchmfpepaaSrvLaw
namespace Go.Proofs.Ytdijgdchmfpepaa
open Go.RowKit
set_option linter.unusedVariables false

theorem toFieldSO_any (a : Option Addr) (cap : Nat) (fs : List Fld) (w : World) (hz : fs.length ≤ 1048576) (hr : FldRow w a fs) :
    Calls Try.prog 6 #[.slice a fs.length cap] w fun e w' => ∃ p c xs, e = .returned (.slice p fs.length c) ∧ fs.length ≤ c ∧ w'.ownsRow w.heap.size 46 3 (.slice p fs.length c) fs.length xs ∧ FldRow w' p fs ∧ Below w.heap.size w w' := by
  refine (toFieldS_any a cap fs w hz hr).mono ?_
  rintro e w' ⟨v, xs, rfl, ho, ht, hb⟩
  obtain ⟨p, c, rfl, hc, _, hrow⟩ := owns_fldRow ho ht
  exact ⟨p, c, xs, rfl, hc, ho, hrow, hb⟩
theorem own_apart {w1 w2 : World} {b1 b2 : Nat} {e1 e2 : TypeId} {s1 s2 n1 n2 : Nat} {v1 v2 : Value} {x1 x2 : List Value} (h1 : w1.ownsRow b1 e1 s1 v1 n1 x1) (h2 : w2.ownsRow b2 e2 s2 v2 n2 x2) (h : w1.heap.size ≤ b2) : v2.ownBlock = none ∨ v2.ownBlock ≠ v1.ownBlock := by
  cases e2 : v2.ownBlock with
  | none => exact .inl rfl
  | some j =>
    refine .inr fun e => ?_
    have a := (h1.lt j (by rw [← e])).2
    have b := (h2.lt j e2).1
    omega
theorem own_flds {w : World} {base : Nat} {v : Value} {L : List Fld} (h : w.ownsRow base 46 3 v L.length (fldCells L)) : ∃ p c, v = .slice p L.length c ∧ FldRow w p L := by
  obtain ⟨p, c, rfl, _, _, hr⟩ := owns_fldRow h (fldTo_cells L)
  exact ⟨p, c, rfl, hr⟩
theorem newF_len (fs : List Fld) (h : fs.length ≤ 1048576) : (newF fs).length ≤ 1048576 := by
  unfold newF
  split
  · exact h
  · exact Nat.zero_le _
set_option maxRecDepth 100000 in
set_option maxHeartbeats 4000000 in
theorem wFnExactServerNew (af : Option Addr) (capf : Nat) (fs : List Fld) (w : World) (hzf : fs.length ≤ maxLen) (hsf : ∀ i, i < fs.length → (fat fs i).name.size ≤ maxLen) (hrf : FldRow w af fs) :
    Calls Try.prog 3 #[.slice af fs.length capf] w fun e w' => e = .returned (.bool true) ∧ Below w.heap.size w w' := by
  have HRF : Hid (∀ wx, Below w.heap.size w wx → FldRow wx af fs) := fun wx h => hrf.below h
  go_enter Try.func3, Try.ntmps3
  go_wp2_with fail
  refine (szFieldS_any af capf fs _ hzf hsf hrf).mono ?_
  rintro e u1 ⟨r, rfl, hrr, hw1⟩
  clear hrf hsf
  by_cases hneg : r < 0
  · go_wp2
    go_ret
    exact ⟨rfl, hw1⟩
  have hnd : decide (r < 0) = false := by simpa using hneg
  obtain ⟨hz1, hsm1⟩ := hrr (by omega)
  have HSF : Hid (FldsSmall fs) := hsm1
  clear hsm1 hrr
  have HS : Hid (∀ a cap wx, FldRow wx a fs → Calls Try.prog 5 #[.slice a fs.length cap] wx fun e w' => SrvAns wx w' fs e) := fun a cap wx h => newSrvS_any a cap fs wx hz1 HSF.out h
  have HI : Hid (∀ a cap wx, fs.length ≤ cap → FldRow wx a fs → Calls Try.prog 7 #[.slice a fs.length cap] wx fun e w' => SrvAns wx w' fs e) := fun a cap wx hc h => newSrvI_any a cap fs wx hz1 hc HSF.out h
  unfold SrvAns at HS HI
  have hT := newF_len fs hz1
  generalize newF fs = T at *
  generalize fieldsB fs = bb at *
  go_wp2_with fail
  refine (toFieldSO_any af capf fs _ hz1 (HRF.out _ hw1)).mono ?_
  rintro e u2 ⟨p2, c2, xs2, rfl, hc2, ho2, r2, hb2⟩
  go_wp2_with fail
  refine (HS.out p2 c2 _ r2).mono ?_
  rintro e u3 ⟨v3, rfl, ho3, hb3⟩
  obtain ⟨p3, c3, rfl, r3⟩ := own_flds ho3
  have hw3 := below_trans hw1 (below_trans hb2 hb3)
  have hA : Below u3.heap.size u3 (u3.alloc (.cells #[.slice p3 T.length c3, .slice none 0 0, .slice none 0 0, .int .i64 0, .slice none 0 0, .slice none 0 0] 32)) := (Below.refl _ _).alloc (Nat.le_refl _) _
  have W3 := Blk.new u3 #[.slice p3 T.length c3, .slice none 0 0, .slice none 0 0, .int .i64 0, .slice none 0 0, .slice none 0 0] 32
  have r3a := r3.below hA
  have hw3a := below_trans hw3 hA
  clear ho2 r2 hb2 hb3 hw1 ho3 r3 hw3 HS hA
  go_wp2_with fail
  refine (toFieldSO_any af capf fs _ hz1 (HRF.out _ hw3a)).mono ?_
  rintro e u5 ⟨p5, c5, xs5, rfl, hc5, ho5, r5, hb5⟩
  generalize u3.alloc (.cells #[.slice p3 T.length c3, .slice none 0 0, .slice none 0 0, .int .i64 0, .slice none 0 0, .slice none 0 0] 32) = v3 at *
  have R3 : Hid (FldRow v3 p3 T) := r3a
  have W5 := W3.below hb5 W3.lt
  have hw5 := below_trans hw3a hb5
  clear W3 r3a
  go_wp2_with fail
  refine (HI.out p5 c5 _ hc5 r5).mono ?_
  rintro e u6 ⟨v6, rfl, ho6, hb6⟩
  obtain ⟨p6, c6, rfl, r6⟩ := own_flds ho6
  have hB : Below u6.heap.size u6 (u6.alloc (.cells #[.slice p6 T.length c6, .slice none 0 0, .slice none 0 0, .int .i64 0, .slice none 0 0, .slice none 0 0] 32)) := (Below.refl _ _).alloc (Nat.le_refl _) _
  have G6 := Blk.new u6 #[.slice p6 T.length c6, .slice none 0 0, .slice none 0 0, .int .i64 0, .slice none 0 0, .slice none 0 0] 32
  have hb6a := below_trans hb6 hB
  have W6 := W5.below hb6a W5.lt
  have r6a := r6.below hB
  have ho6a := ho6.kept (grown_none hB) (Classical.em _)
  have r5a := r5.below hb6a
  have q6 := R3.out.below (below_trans hb5 hb6a)
  have hw6 := below_trans hw5 hb6a
  clear W5 r6 ho6 r5 hb6 hB
  have w0 := W6.cell 0
  have w1 := W6.cell 1
  have w2 := W6.cell 2
  have w3 := W6.cell 3
  have w4 := W6.cell 4
  have w5 := W6.cell 5
  have g0 := G6.cell 0
  have g1 := G6.cell 1
  have g2 := G6.cell 2
  have g3 := G6.cell 3
  have g4 := G6.cell 4
  have g5 := G6.cell 5
  simp at w0 w1 w2 w3 w4 w5 g0 g1 g2 g3 g4 g5
  go_wp2_with fail
  refine (eqServer_new p6 p3 c6 c3 T _ (by omega) r6a q6).mono ?_
  rintro e u7 ⟨rfl, hb7⟩
  generalize u6.alloc (.cells #[.slice p6 T.length c6, .slice none 0 0, .slice none 0 0, .int .i64 0, .slice none 0 0, .slice none 0 0] 32) = v6 at *
  have W7 := W6.below hb7 W6.lt
  have G7 := G6.below hb7 G6.lt
  have ho7 := ho6a.kept (grown_none hb7) (Classical.em _)
  have r57 := r5a.below hb7
  have hw7 := below_trans hw6 hb7
  have hb67 := below_trans hb6a hb7
  clear W6 G6 r6a q6 r5a hw6 hb7 hb6a w0 w1 w2 w3 w4 w5 g0 g1 g2 g3 g4 g5 ho6a
  go_wp2_with fail
  refine (toFieldSO_any af capf fs _ hz1 (HRF.out _ hw7)).mono ?_
  rintro e u8 ⟨p8, c8, xs8, rfl, hc8, ho8, r8, hb8⟩
  have r58 := r57.below hb8
  go_wp2_with fail
  refine (eqFieldS_same p5 p8 c5 c8 fs _ (by omega) r58 r8).mono ?_
  rintro e u9 ⟨rfl, hb9⟩
  have hb79 := below_trans hb8 hb9
  have W9 := W7.below hb79 W7.lt
  have G9 := G7.below hb79 G7.lt
  have ho9 := ho7.kept (grown_none hb79) (Classical.em _)
  have hb69 := below_trans hb67 hb79
  have hF9 := ho5.kept (grown_none hb69) (Classical.em _)
  have hb39 := below_trans hb5 hb69
  clear W7 G7 ho7 r57 hw7 ho8 r8 hb8 r58 hb9 hb79 hb67
  go_wp2_with fail
  refine (markFieldS_any v3.heap.size (.slice p5 fs.length c5) fs.length 1 xs5 _ (by have := hF9.1; omega) (by omega) (by omega) (by omega) hF9).mono ?_
  rintro e u10 ⟨rfl, _, hg10⟩
  have hTa := own_apart ho5 ho9 (Nat.le_refl _)
  have ho10 := ho9.kept hg10 hTa
  have W10 := W9.grown hg10 (fun e => own_type hF9 W9 (by decide) e.symm)
  have G10 := G9.grown hg10 (fun e => own_type hF9 G9 (by decide) e.symm)
  have hb310 : Below v3.heap.size v3 u10 := hb39.grown hg10 (by have := hb39.size; omega) (fun j hj => (hF9.lt j hj).1)
  clear hTa W9 G9 hg10 hF9 ho9 hb39 hb69 ho5
  have q10 := R3.out.below hb310
  obtain ⟨p6', c6', e6, r10⟩ := own_flds ho10
  obtain rfl : p6 = p6' := by injection e6
  clear e6
  have w0 := W10.cell 0
  have w1 := W10.cell 1
  have w2 := W10.cell 2
  have w3 := W10.cell 3
  have w4 := W10.cell 4
  have w5 := W10.cell 5
  have g0 := G10.cell 0
  have g1 := G10.cell 1
  have g2 := G10.cell 2
  have g3 := G10.cell 3
  have g4 := G10.cell 4
  have g5 := G10.cell 5
  simp at w0 w1 w2 w3 w4 w5 g0 g1 g2 g3 g4 g5
  go_wp2_with fail
  refine (eqServer_new p6 p3 c6 c3 T _ (by omega) r10 q10).mono ?_
  rintro e u11 ⟨rfl, hb11⟩
  have W11 := W10.below hb11 W10.lt
  have G11 := G10.below hb11 G10.lt
  have ho11 := ho10.kept (grown_none hb11) (Classical.em _)
  have hb311 := below_trans hb310 hb11
  clear W10 G10 ho10 hb11 hb310 q10 r10 w0 w1 w2 w3 w4 w5 g0 g1 g2 g3 g4 g5
  have g0 := G11.cell 0
  have g1 := G11.cell 1
  have g2 := G11.cell 2
  have g3 := G11.cell 3
  have g4 := G11.cell 4
  have g5 := G11.cell 5
  simp at g0 g1 g2 g3 g4 g5
  go_wp2_with fail
  refine (markServer_new u5.heap.size p6 c6 T.length (fldCells T) _ (by have := ho11.1; omega) (by omega) ho11).mono ?_
  rintro e u12 ⟨rfl, ho12, hg12⟩
  have W12 := W11.grown hg12 (fun e => own_type ho11 W11 (by decide) e.symm)
  have G12 := G11.grown hg12 (fun e => own_type ho11 G11 (by decide) e.symm)
  have hb312 : Below v3.heap.size v3 u12 := hb311.grown hg12 (by have := hb311.size; omega) (fun j hj => by have := (ho11.lt j hj).1; have := hb5.size; omega)
  have M12 := owns_markF ho12
  clear W11 G11 hg12 ho11 ho12 hb311 g0 g1 g2 g3 g4 g5
  have g0 := G12.cell 0
  have g1 := G12.cell 1
  have g2 := G12.cell 2
  have g3 := G12.cell 3
  have g4 := G12.cell 4
  have g5 := G12.cell 5
  simp at g0 g1 g2 g3 g4 g5
  go_wp2_with fail
  refine (heldServer_new p6 c6 T.length _ (by omega) M12).mono ?_
  rintro e u13 ⟨rfl, hb13⟩
  have W13 := W12.below hb13 W12.lt
  have G13 := G12.below hb13 G12.lt
  have M13 := M12.below hb13
  have hb313 := below_trans hb312 hb13
  have hw13 := below_trans hw3a hb313
  clear W12 G12 M12 hb13 hb312 g0 g1 g2 g3 g4 g5
  go_wp2_with fail
  refine (toFieldSO_any af capf fs _ hz1 (HRF.out _ hw13)).mono ?_
  rintro e u14 ⟨p14, c14, xs14, rfl, hc14, ho14, r14, hb14⟩
  go_wp2_with fail
  refine (HI.out p14 c14 _ hc14 r14).mono ?_
  rintro e u15 ⟨v15, rfl, ho15, hb15⟩
  obtain ⟨p15, c15, rfl, r15⟩ := own_flds ho15
  have hC : Below u15.heap.size u15 (u15.alloc (.cells #[.slice p15 T.length c15, .slice none 0 0, .slice none 0 0, .int .i64 0, .slice none 0 0, .slice none 0 0] 32)) := (Below.refl _ _).alloc (Nat.le_refl _) _
  have H15 := Blk.new u15 #[.slice p15 T.length c15, .slice none 0 0, .slice none 0 0, .int .i64 0, .slice none 0 0, .slice none 0 0] 32
  have hb1315 := below_trans hb14 (below_trans hb15 hC)
  have W15 := W13.below hb1315 W13.lt
  have G15 := G13.below hb1315 G13.lt
  have M15 := M13.below hb1315
  have r15a := r15.below hC
  have hb315 := below_trans hb313 hb1315
  have q15 := R3.out.below hb315
  clear W13 G13 M13 hb14 hb15 hC ho14 r14 ho15 r15 hb313 hb1315
  have w0 := W15.cell 0
  have w1 := W15.cell 1
  have w2 := W15.cell 2
  have w3 := W15.cell 3
  have w4 := W15.cell 4
  have w5 := W15.cell 5
  have g0 := H15.cell 0
  have g1 := H15.cell 1
  have g2 := H15.cell 2
  have g3 := H15.cell 3
  have g4 := H15.cell 4
  have g5 := H15.cell 5
  simp at w0 w1 w2 w3 w4 w5 g0 g1 g2 g3 g4 g5
  go_wp2_with fail
  refine (eqServer_new p15 p3 c15 c3 T _ (by omega) r15a q15).mono ?_
  rintro e u16 ⟨rfl, hb16⟩
  generalize u15.alloc (.cells #[.slice p15 T.length c15, .slice none 0 0, .slice none 0 0, .int .i64 0, .slice none 0 0, .slice none 0 0] 32) = v15 at *
  have G16 := G15.below hb16 G15.lt
  have M16 := M15.below hb16
  have hb316 := below_trans hb315 hb16
  clear W15 G15 H15 M15 hb16 hb315 q15 r15a w0 w1 w2 w3 w4 w5 g0 g1 g2 g3 g4 g5
  have g0 := G16.cell 0
  have g1 := G16.cell 1
  have g2 := G16.cell 2
  have g3 := G16.cell 3
  have g4 := G16.cell 4
  have g5 := G16.cell 5
  simp at g0 g1 g2 g3 g4 g5
  go_wp2_with fail
  refine (heldServer_new p6 c6 T.length _ (by omega) M16).mono ?_
  rintro e u17 ⟨rfl, hb17⟩
  have hw17 := below_trans hw3a (below_trans hb316 hb17)
  clear G16 M16 hb17 hb316 g0 g1 g2 g3 g4 g5
  go_wp2
  go_ret
  exact ⟨rfl, hw17⟩
end Go.Proofs.Ytdijgdchmfpepaa
