/- The walk of the law FnIndexNew. -/
import Derived.Test.YtlbigfgjalmhiaaIdxOk0
import Derived.Test.YtlbigfgjalmhiaaDrawFlds2
namespace Go.Proofs.Ytlbigfgjalmhiaa
open Go.RowKit
set_option linter.unusedVariables false

theorem drawIndexNew_any (a : Option Addr) (len cap : Nat) (w : World) (h : BytesIn w a len cap) :
    Calls Try.prog 4 #[.slice a len cap] w fun e w' => ∃ (v : Value) (fs : List Fld), e = .returned v ∧ fs.length ≤ 5 ∧ FldsB fs ∧ w'.ownsRow w.heap.size 60 3 v fs.length (fldCells fs) ∧ Below w.heap.size w w' := by
  go_enter Try.func4, Try.ntmps4
  go_wp2_with fail
  refine (open_any a len cap _ h).mono ?_
  rintro e w1 ⟨len', rfl, hR1, hC1, hb1⟩
  have hl1 := hR1.lt
  clear h
  go_wp2_with fail
  refine (l11AnyFields_any w.heap.size a len' cap 0 _ hR1 hC1 (by omega)).mono ?_
  rintro e w2 ⟨v, fs, p, rfl, hl, hsm, _, hd⟩
  have HO : Hid (w2.ownsRow w.heap.size 60 3 v fs.length (fldCells fs)) := ownsRow_mono hd.1 hb1.size
  have hw2 : Below w.heap.size w w2 := grown_below hb1 hd.2.2
  clear hR1 hC1 hd hb1
  go_wp2
  go_ret
  exact ⟨v, fs, rfl, hl, hsm, HO.out, hw2⟩
set_option maxRecDepth 100000 in
set_option maxHeartbeats 2000000 in
theorem sdIndex_new (a b : Option Addr) (ca cb : Nat) (fs : List Fld) (w : World) (hl : fs.length ≤ 1048576) (ha : FldRow w a fs) (hb : FldRow w b fs) :
    Calls Try.prog 7 #[.agg #[.slice a fs.length ca, .slice none 0 0, .slice none 0 0, .int .i64 0], .agg #[.slice b fs.length cb, .slice none 0 0, .slice none 0 0, .int .i64 0]] w fun e w' => e = .returned (.bool true) ∧ Below w.heap.size w w' := by
  have hb0 : Below w.heap.size w ((w.alloc (.cells #[.slice a fs.length ca, .slice none 0 0, .slice none 0 0, .int .i64 0] 28)).alloc (.cells #[.slice b fs.length cb, .slice none 0 0, .slice none 0 0, .int .i64 0] 28)) := ((Below.refl _ w).alloc (Nat.le_refl _) _).alloc (by simp) _
  have A0 : Blk ((w.alloc (.cells #[.slice a fs.length ca, .slice none 0 0, .slice none 0 0, .int .i64 0] 28)).alloc (.cells #[.slice b fs.length cb, .slice none 0 0, .slice none 0 0, .int .i64 0] 28)) w.heap.size #[.slice a fs.length ca, .slice none 0 0, .slice none 0 0, .int .i64 0] 28 := (Blk.new w _ _).alloc _
  have B0 : Blk ((w.alloc (.cells #[.slice a fs.length ca, .slice none 0 0, .slice none 0 0, .int .i64 0] 28)).alloc (.cells #[.slice b fs.length cb, .slice none 0 0, .slice none 0 0, .int .i64 0] 28)) (w.heap.size + 1) #[.slice b fs.length cb, .slice none 0 0, .slice none 0 0, .int .i64 0] 28 := by
    have h := Blk.new (w.alloc (.cells #[.slice a fs.length ca, .slice none 0 0, .slice none 0 0, .int .i64 0] 28)) #[.slice b fs.length cb, .slice none 0 0, .slice none 0 0, .int .i64 0] 28
    rw [show (w.alloc (.cells #[.slice a fs.length ca, .slice none 0 0, .slice none 0 0, .int .i64 0] 28)).heap.size = w.heap.size + 1 from by simp] at h
    exact h
  have ra := ha.below hb0
  have rb := hb.below hb0
  clear ha hb
  go_enter Try.func7, Try.ntmps7
  go_wp2_with fail
  refine (sdFields_same a b ca cb fs _ hl ra rb).mono ?_
  rintro e w1 ⟨rfl, hb1⟩
  have A1 := A0.below hb1 A0.lt
  have B1 := B0.below hb1 B0.lt
  have hw1 := below_trans hb0 hb1
  clear A0 B0 hb0 hb1 ra rb
  have x1 := A1.cell 1
  have x2 := A1.cell 2
  have x3 := A1.cell 3
  have y1 := B1.cell 1
  have y2 := B1.cell 2
  have y3 := B1.cell 3
  have hl1 := A1.lt
  have hl2 := B1.lt
  simp at x1 x2 x3 y1 y2 y3
  clear A1 B1
  go_wp2
  refine wp_loop_rounds 1 ?_
  rw [rounds_succ]
  go_wp2
  refine wp_loop_rounds 1 ?_
  rw [rounds_succ]
  go_wp2
  go_ret
  exact ⟨rfl, hw1⟩
theorem own_flds {w : World} {base : Nat} {v : Value} {L : List Fld} (h : w.ownsRow base 60 3 v L.length (fldCells L)) : ∃ p c, v = .slice p L.length c ∧ L.length ≤ c ∧ FldRow w p L := by
  obtain ⟨p, c, rfl, hc, _, hr⟩ := owns_fldRow h (fldTo_cells L)
  exact ⟨p, c, rfl, hc, hr⟩
set_option maxRecDepth 100000 in
set_option maxHeartbeats 4000000 in
theorem wFnIndexNew (a0 : Option Addr) (len0 cap0 : Nat) (w : World) (b0 : BytesIn w a0 len0 cap0) :
    Calls Try.prog 3 #[.slice a0 len0 cap0] w fun e w' => e = .returned (.bool true) ∧ Below w.heap.size w w' := by
  have m0 := b0.le
  have m1 := b0.max
  unfold maxLen at m1
  by_cases hbig0 : 1048576 < (len0 : Int)
  · clear b0
    go_enter Try.func3, Try.ntmps3
    go_wp2
    go_ret
    exact ⟨rfl, Below.refl _ _⟩
  go_enter Try.func3, Try.ntmps3
  go_wp2_with fail
  refine (drawIndexNew_any _ _ _ _ b0).mono ?_
  rintro e u1 ⟨vf, fs, rfl, hfl, hfb, hof, hb1⟩
  obtain ⟨pf, cf, rfl, hcf, hrf⟩ := own_flds hof
  have HSF : Hid (FldsSmall fs) := hfb.small
  have HRF : Hid (∀ wx, Below u1.heap.size u1 wx → FldRow wx pf fs) := fun wx h => hrf.below h
  have hr1 : FldRow u1 pf fs := hrf
  clear b0 hof hfb hrf
  have HI : Hid (Calls Try.prog 5 #[.slice pf fs.length cf] u1 fun e w' => NewAns u1 w' fs e) := newI_any pf cf fs u1 (by omega) hcf HSF.out hr1
  have HS : Hid (∀ wx, Below u1.heap.size u1 wx → Calls Try.prog 6 #[.slice pf fs.length cf] wx fun e w' => NewAns wx w' fs e) := fun wx h => newS_any pf cf fs wx (by omega) HSF.out (HRF.out wx h)
  have HOK : Hid (∀ p c wx, fs.length ≤ c → FldRow wx p fs → fieldsB fs = true → Calls Try.prog 8 #[.agg #[.slice p fs.length c, .slice none 0 0, .slice none 0 0, .int .i64 0]] wx fun e w' => e = .returned (.bool true) ∧ Below wx.heap.size wx w') := fun p c wx hc h1 h2 => indexOk_new p c fs wx (by omega) hc HSF.out h1 h2
  unfold NewAns at HI HS
  have HY : Hid (fieldsB fs = true → newF fs = fs) := newF_yes
  have hT : (newF fs).length ≤ 5 := by
    unfold newF
    split
    · omega
    · exact Nat.zero_le _
  generalize newF fs = T at *
  generalize fieldsB fs = bb at *
  clear hr1 HRF HSF
  go_wp2_with fail
  refine HI.out.mono ?_
  rintro e u2 ⟨v2, rfl, ho2, hb2⟩
  obtain ⟨p2, c2, rfl, hc2, r2⟩ := own_flds ho2
  have hA : Below u2.heap.size u2 (u2.alloc (.cells #[.slice p2 T.length c2, .slice none 0 0, .slice none 0 0, .int .i64 0] 28)) := (Below.refl _ _).alloc (Nat.le_refl _) _
  have X2 := Blk.new u2 #[.slice p2 T.length c2, .slice none 0 0, .slice none 0 0, .int .i64 0] 28
  have r2a := r2.below hA
  have hw2 := below_trans hb2 hA
  clear HI ho2 r2 hb2 hA
  go_wp2_with fail
  refine (HS.out _ hw2).mono ?_
  rintro e u3 ⟨v3, rfl, ho3, hb3⟩
  generalize u2.alloc (.cells #[.slice p2 T.length c2, .slice none 0 0, .slice none 0 0, .int .i64 0] 28) = v2 at *
  obtain ⟨p3, c3, rfl, hc3, r3⟩ := own_flds ho3
  have hB : Below u3.heap.size u3 (u3.alloc (.cells #[.slice p3 T.length c3, .slice none 0 0, .slice none 0 0, .int .i64 0] 28)) := (Below.refl _ _).alloc (Nat.le_refl _) _
  have W3 := Blk.new u3 #[.slice p3 T.length c3, .slice none 0 0, .slice none 0 0, .int .i64 0] 28
  have hb3a := below_trans hb3 hB
  have X3 := X2.below hb3a X2.lt
  have r23 := r2a.below hb3a
  have r3a := r3.below hB
  have hw3 := below_trans hw2 hb3a
  clear HS ho3 r3 hb3 hB X2 r2a hw2 hb3a
  have x0 := X3.cell 0
  have x1 := X3.cell 1
  have x2 := X3.cell 2
  have x3 := X3.cell 3
  have w0 := W3.cell 0
  have w1 := W3.cell 1
  have w2 := W3.cell 2
  have w3 := W3.cell 3
  simp at x0 x1 x2 x3 w0 w1 w2 w3
  go_wp2_with fail
  refine (sdIndex_new p2 p3 c2 c3 T _ (by omega) r23 r3a).mono ?_
  rintro e u4 ⟨rfl, hb4⟩
  generalize u3.alloc (.cells #[.slice p3 T.length c3, .slice none 0 0, .slice none 0 0, .int .i64 0] 28) = v3 at *
  have X4 := X3.below hb4 X3.lt
  have W4 := W3.below hb4 W3.lt
  have r24 := r23.below hb4
  have r34 := r3a.below hb4
  have hw4 := below_trans hw3 hb4
  clear X3 W3 r23 r3a hw3 hb4 x0 x1 x2 x3 w0 w1 w2 w3
  have x0 := X4.cell 0
  have x1 := X4.cell 1
  have x2 := X4.cell 2
  have x3 := X4.cell 3
  have w0 := W4.cell 0
  have w1 := W4.cell 1
  have w2 := W4.cell 2
  have w3 := W4.cell 3
  simp at x0 x1 x2 x3 w0 w1 w2 w3
  cases bb with
  | false =>
    go_wp2_with fail
    refine (sdIndex_new p2 p3 c2 c3 T _ (by omega) r24 r34).mono ?_
    rintro e u5 ⟨rfl, hb5⟩
    have hw5 := below_trans hb1 (below_trans hw4 hb5)
    clear X4 W4 x0 x1 x2 x3 w0 w1 w2 w3 r24 r34 hw4 hb5 HOK
    go_wp2
    go_ret
    exact ⟨rfl, hw5⟩
  | true =>
    have hTe : T = fs := HY.out rfl
    subst hTe
    go_wp2_with fail
    refine (HOK.out p2 c2 _ hc2 r24 trivial).mono ?_
    rintro e u5 ⟨rfl, hb5⟩
    have X5 := X4.below hb5 X4.lt
    have hw5 := below_trans hb1 (below_trans hw4 hb5)
    clear X4 W4 x0 x1 x2 x3 w0 w1 w2 w3 r24 r34 hw4 hb5 HOK HY
    have x1 := X5.cell 1
    have x2 := X5.cell 2
    have x3 := X5.cell 3
    simp at x1 x2 x3
    clear X5
    go_wp2
    go_ret
    exact ⟨rfl, hw5⟩
end Go.Proofs.Ytlbigfgjalmhiaa
