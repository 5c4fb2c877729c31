/- The walk of the law FnExactIndexOk. -/
import Derived.Test.YtbifagdcnpnpjaaGreatIdxWords
import Derived.Test.YtbifagdcnpnpjaaGreatIdxSz
import Derived.Test.YtbifagdcnpnpjaaGreatIdxToI
import Derived.Test.YtbifagdcnpnpjaaGreatIdxEq
namespace Go.Proofs.YtbifagdcnpnpjaaGreat
open Go Go.RowKit Go.BigFrame
set_option linter.unusedVariables false

set_option maxRecDepth 100000 in
set_option maxHeartbeats 4000000 in
theorem wFnExactIndexOk (pf : Option Addr) (cf : Nat) (pr : Option Addr) (cr : Nat) (pe : Option Addr) (ce : Nat) (x : Idx) (w : World) (hm : MaxL w) (hb : IdxBig x) (hx : IdxAt w pf cf pr cr pe ce x) :
    Calls Tryz.prog 3 #[.agg (idxC pf cf pr cr pe ce x)] w fun e w' => e = .returned (.bool true) ∧ Below w.heap.size w w' := by
  have HSZ : Hid (∀ wx, Below w.heap.size w wx → Calls Tryz.prog 9 #[.agg (idxC pf cf pr cr pe ce x), .int .i64 1048576] wx fun e w' => ∃ r : Int, e = .returned (.int .i64 r) ∧ r ≤ 1048576 ∧ (0 ≤ r → IdxSm x) ∧ Below wx.heap.size wx w') := fun wx h => szIndex_any pf cf pr cr pe ce x wx hb (hx.below h)
  have HTO : Hid (IdxSm x → ∀ wx, Below w.heap.size w wx → Calls Tryz.prog 11 #[.agg (idxC pf cf pr cr pe ce x)] wx fun e w' => ∃ pf' cf' pr' cr' pe' ce', e = .returned (.agg (idxC pf' cf' pr' cr' pe' ce' x)) ∧ IdxAt w' pf' cf' pr' cr' pe' ce' x ∧ Below wx.heap.size wx w') := fun hs wx h =>
    (toIndex_any pf cf pr cr pe ce x wx hs (hx.below h)).mono fun e w' ⟨a, b, c, d, f, g, _, _, _, _, h1, _, h2, h3⟩ => ⟨a, b, c, d, f, g, h1, h2, h3⟩
  have HM : Hid (∀ wx, Below w.heap.size w wx → MaxL wx) := fun wx h => hm.below h
  obtain ⟨bb, HBB⟩ : ∃ b, Hid (idxB x = b) := ⟨_, rfl⟩
  obtain ⟨W0, hW0⟩ : ∃ W0, w.alloc (.cells (idxC pf cf pr cr pe ce x) 26) = W0 := ⟨_, rfl⟩
  have hb0 : Below w.heap.size w W0 := by rw [← hW0]; exact (Below.refl _ w).alloc (Nat.le_refl _) _
  have X0 : Blk W0 w.heap.size (idxC pf cf pr cr pe ce x) 26 := by rw [← hW0]; exact Blk.new _ _ _
  clear hm hb hx
  unfold idxC at *
  have x0 := X0.cell 0
  have x1 := X0.cell 1
  have x2 := X0.cell 2
  have x3 := X0.cell 3
  simp at x0 x1 x2 x3
  go_enter Tryz.func3, Tryz.ntmps3
  go_wp2_with fail
  refine (HSZ.out _ hb0).mono ?_
  rintro e w1 ⟨r, rfl, hr1, hr2, hb1⟩
  have HR2 : Hid (0 ≤ r → IdxSm x) := hr2
  have hbw1 := hb0.trans (hb1.mono hb0.size)
  have X1 := X0.below hb1 X0.lt
  clear hb1 hr2 x0 x1 x2 x3 X0 HSZ
  by_cases hneg : r < 0
  · go_wp2
    go_ret
    exact ⟨rfl, hbw1⟩
  · have HSM : Hid (IdxSm x) := HR2.out (by omega)
    have x0 := X1.cell 0
    have x1 := X1.cell 1
    have x2 := X1.cell 2
    have x3 := X1.cell 3
    simp at x0 x1 x2 x3
    clear HR2
    go_wp2_with fail
    refine (HTO.out HSM.out _ hbw1).mono ?_
    rintro e w2 ⟨pf2, cf2, pr2, cr2, pe2, ce2, rfl, hx2, hb2⟩
    have hbw2 := hbw1.trans (hb2.mono hbw1.size)
    have X2 := X1.below hb2 X1.lt
    have HC : Hid (Calls Tryz.prog 10 #[.agg #[.slice pf2 x.fields.length cf2, .slice pr2 x.rows.length cr2, .slice pe2 x.ents.length ce2, .int .i64 x.next]] w2 fun e w' => EqB bb w2 w' e) := by rw [← HBB.out]; exact indexOkS_any pf2 cf2 pr2 cr2 pe2 ce2 x w2 HSM.out hx2
    clear X1 hb2 x0 x1 x2 x3 hx2
    go_wp2_with fail
    refine HC.out.mono ?_
    rintro e w3 ⟨rfl, hb3⟩
    have hbw3 := hbw2.trans (hb3.mono hbw2.size)
    have X3 := X2.below hb3 X2.lt
    have x0 := X3.cell 0
    have x1 := X3.cell 1
    have x2 := X3.cell 2
    have x3 := X3.cell 3
    simp at x0 x1 x2 x3
    clear X2 hb3 HC
    go_wp2_with fail
    refine (HTO.out HSM.out _ hbw3).mono ?_
    rintro e w4 ⟨pf4, cf4, pr4, cr4, pe4, ce4, rfl, hx4, hb4⟩
    have hbw4 := hbw3.trans (hb4.mono hbw3.size)
    have X4 := X3.below hb4 X3.lt
    obtain ⟨W5, hW5⟩ : ∃ W5, w4.alloc (.cells #[.slice pf4 x.fields.length cf4, .slice pr4 x.rows.length cr4, .slice pe4 x.ents.length ce4, .int .i64 x.next] 33) = W5 := ⟨_, rfl⟩
    have hba : Below w4.heap.size w4 W5 := by rw [← hW5]; exact (Below.refl _ _).alloc (Nat.le_refl _) _
    have V5 : Blk W5 w4.heap.size #[.slice pf4 x.fields.length cf4, .slice pr4 x.rows.length cr4, .slice pe4 x.ents.length ce4, .int .i64 x.next] 33 := by rw [← hW5]; exact Blk.new _ _ _
    have hbw5 := hbw4.trans (hba.mono hbw4.size)
    have X5 := X4.below hba X4.lt
    have HX5 : Hid (IdxAt W5 pf4 cf4 pr4 cr4 pe4 ce4 x) := hx4.below hba
    have HI : Hid (Calls Tryz.prog 12 #[.agg #[.slice pf4 x.fields.length cf4, .slice pr4 x.rows.length cr4, .slice pe4 x.ents.length ce4, .int .i64 x.next]] W5 fun e w' => EqB bb W5 w' e) := by rw [← HBB.out]; exact indexOkI_any pf4 cf4 pr4 cr4 pe4 ce4 x W5 HSM.out HX5.out (HM.out _ hbw5)
    have HW5 : Hid (w4.alloc (.cells #[.slice pf4 x.fields.length cf4, .slice pr4 x.rows.length cr4, .slice pe4 x.ents.length ce4, .int .i64 x.next] 33) = W5) := hW5
    clear X3 hb4 x0 x1 x2 x3 hx4 hba X4 hW5
    go_wp2_with fail
    rw [HW5.out]
    refine HI.out.mono ?_
    rintro e w6 ⟨rfl, hb6⟩
    have hbw6 := hbw5.trans (hb6.mono hbw5.size)
    have HX6 : Hid (Blk w6 w.heap.size #[.slice pf x.fields.length cf, .slice pr x.rows.length cr, .slice pe x.ents.length ce, .int .i64 x.next] 26) := X5.below hb6 X5.lt
    have HV6 : Hid (Blk w6 w4.heap.size #[.slice pf4 x.fields.length cf4, .slice pr4 x.rows.length cr4, .slice pe4 x.ents.length ce4, .int .i64 x.next] 33) := V5.below hb6 V5.lt
    have HA6 : Hid (IdxAt w6 pf4 cf4 pr4 cr4 pe4 ce4 x) := HX5.out.below hb6
    have hbd : Below w.heap.size w w6.drew := below_drew hbw6
    have v0 := HV6.out.cell 0
    have v1 := HV6.out.cell 1
    have v2 := HV6.out.cell 2
    have v3 := HV6.out.cell 3
    have x0 := HX6.out.cell 0
    have x1 := HX6.out.cell 1
    have x2 := HX6.out.cell 2
    have x3 := HX6.out.cell 3
    simp at v0 v1 v2 v3 x0 x1 x2 x3
    clear X5 V5 hb6 HX5 HI HW5
    go_wp2_with fail
    go_region_law (first
      | (go_simp; go_at_call 11; refine (HTO.out HSM.out _ hbd).mono ?_; rintro e w7 ⟨pf7, cf7, pr7, cr7, pe7, ce7, rfl, hx7, hb7d⟩; have hb7 : Below w6.heap.size w6 w7 := ⟨hb7d.os, hb7d.tape, hb7d.output, hb7d.size, hb7d.block⟩; have V7 := HV6.out.below hb7 HV6.out.lt; have u0 := V7.cell 0; have u1 := V7.cell 1; have u2 := V7.cell 2; have u3 := V7.cell 3; simp at u0 u1 u2 u3; have hbw7 := hbw6.trans (hb7.mono hbw6.size); have HEQ := eqIndex_same x pf4 cf4 pr4 cr4 pe4 ce4 pf7 cf7 pr7 cr7 pe7 ce7 w7 HSM.out (HA6.out.below hb7) hx7; clear hb7d hb7 hx7 V7)
      | (go_simp; go_at_call 13; refine HEQ.mono ?_; rintro e w8 ⟨rfl, hb8⟩)
      | fail)
    all_goals
      have hbw8 := hbw7.trans (hb8.mono hbw7.size)
      clear hb8 HEQ u0 u1 u2 u3 HTO HV6 HX6 HA6
      go_wp2
      go_ret
      exact ⟨rfl, hbw8⟩
end Go.Proofs.YtbifagdcnpnpjaaGreat
