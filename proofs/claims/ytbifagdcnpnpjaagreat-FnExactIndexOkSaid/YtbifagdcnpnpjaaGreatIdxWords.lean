/- indexWords and IndexOk of the program. -/
import Derived.Test.YtbifagdcnpnpjaaGreatRowsOk
import Derived.Test.YtbifagdcnpnpjaaGreatEntries
import Derived.Test.YtbifagdcnpnpjaaGreatIdxSame3
namespace Go.Proofs.YtbifagdcnpnpjaaGreat
open Go Go.Sort Go.RowKit Go.BigFrame
set_option linter.unusedVariables false

/-- What the program asks of an index. -/
def idxP (x : Idx) : Bool := fieldsB x.fields && !decide (x.next < 0) && !decide (999999999 < x.next) && rowsOkB x && decide (madeE x.fields x.rows = x.ents)
theorem idxP_eq (x : Idx) : idxP x = idxB x := by
  unfold idxP idxB idxU
  rw [← rows_same]
  have e : inB x.next 0 999999999 = (!decide (x.next < 0) && !decide (999999999 < x.next)) := by
    unfold inB
    by_cases h1 : x.next < 0
    · rw [decide_eq_true h1, decide_eq_false (by omega)]; rfl
    · rw [decide_eq_false h1, decide_eq_true (by omega : (0 : Int) ≤ x.next)]
      by_cases h2 : 999999999 < x.next
      · rw [decide_eq_true h2, decide_eq_false (by omega)]; rfl
      · rw [decide_eq_false h2, decide_eq_true (by omega)]; rfl
  rw [e]
  cases fieldsB x.fields <;> cases decide (x.next < 0) <;> cases decide (999999999 < x.next) <;> cases idxTo x (IntKind.i64.wrap (x.next - 1)) x.rows.length <;> cases decide (x.rows.length ≤ 8) <;> cases decide (madeE x.fields x.rows = x.ents) <;> rfl
theorem rowsOk_small {x : Idx} (h : rowsOkB x = true) : RwsL x.rows := by
  rw [← rows_same, Bool.and_eq_true] at h
  exact rows_small h.1 (of_decide_eq_true h.2)
/-- The words of an index, and whether it is ok. -/
def WordsA (x : Idx) (w w' : World) (e : Ending) : Prop := ∃ mb po no co b, e = .returned (.tuple #[.agg #[.map mb, .slice po no co], .bool b]) ∧ b = idxP x ∧
  (b = true → ∃ bw b0 s ib vl fp, mb = some b0 ∧ AddS w' w.heap.size bw b0 s 2000000 ib vl fp (.slice po no co) ∧ WRel (madeE x.fields x.rows) s ∧ EntsN (madeE x.fields x.rows) 1000000) ∧ Below w.heap.size w w'
set_option maxRecDepth 100000 in
set_option maxHeartbeats 8000000 in
theorem indexWords_any (pf : Option Addr) (cf : Nat) (pr : Option Addr) (cr : Nat) (pe : Option Addr) (ce : Nat) (x : Idx) (w : World) (hsm : IdxSm x) (hx : IdxAt w pf cf pr cr pe ce x) (hm : MaxL w) :
    Calls Tryz.prog 49 #[.agg (idxC pf cf pr cr pe ce x)] w fun e w' => WordsA x w w' e := by
  have HR : Hid (∀ wx, Below w.heap.size w wx → Calls Tryz.prog 91 #[.agg (idxC pf cf pr cr pe ce x)] wx fun e w' => e = .returned (.bool (rowsOkB x)) ∧ Below wx.heap.size wx w') := fun wx h => rowsOk_any pf cf pr cr pe ce x wx hsm (hx.below h) (hm.below h)
  have HF : Hid (∀ wx, Below w.heap.size w wx → Calls Tryz.prog 90 #[.slice pf x.fields.length cf] wx fun e w' => e = .returned (.bool (fieldsB x.fields)) ∧ Below wx.heap.size wx w') := fun wx h => fieldsI_any pf cf x.fields wx hsm.fl hx.hf hsm.fs (hx.below h).f
  have HW : Hid (RwsL x.rows → ∀ wx, Below w.heap.size w wx → Calls Tryz.prog 92 #[.slice pf x.fields.length cf, .slice pr x.rows.length cr] wx fun e w' => ∃ (b0 bw : Nat) (vo : Value), e = .returned (.agg #[.map (some b0), vo]) ∧ (∃ s ib vl fp, AddS w' wx.heap.size bw b0 s 2000000 ib vl fp vo ∧ WRel (madeE x.fields x.rows) s) ∧ EntsN (madeE x.fields x.rows) 1000000 ∧ Below wx.heap.size wx w') := fun hl wx h => wordsOf_any pf cf x.fields pr cr x.rows wx hsm.fl (hx.below h).f hl (hx.below h).r
  have HE : Hid (∀ wx, Below w.heap.size w wx → EntRow wx pe x.ents) := fun wx h => (hx.below h).e
  have HES : Hid (EntsSm x.ents) := hsm.es
  have HP : Hid (idxP x = (fieldsB x.fields && !decide (x.next < 0) && !decide (999999999 < x.next) && rowsOkB x && decide (madeE x.fields x.rows = x.ents))) := rfl
  obtain ⟨W0, hW0⟩ : ∃ W0, (w.alloc (.cells (idxC pf cf pr cr pe ce x) 33)).alloc (.cells #[.map none, .slice none 0 0] 82) = W0 := ⟨_, rfl⟩
  have hb0 : Below w.heap.size w W0 := by rw [← hW0]; exact ((Below.refl _ w).alloc (Nat.le_refl _) _).alloc (by simp) _
  have HE0 : Hid ((w.alloc (.cells (idxC pf cf pr cr pe ce x) 33)).alloc (.cells #[.map none, .slice none 0 0] 82) = W0) := hW0
  have HX0 : Hid (Blk W0 w.heap.size (idxC pf cf pr cr pe ce x) 33) := by unfold Hid; rw [← hW0]; exact (Blk.new _ _ _).alloc _
  have HR0 : Hid (Blk W0 (w.heap.size + 1) #[.map none, .slice none 0 0] 82) := by
    have h := Blk.new (w.alloc (.cells (idxC pf cf pr cr pe ce x) 33)) #[.map none, .slice none 0 0] 82
    rw [hW0, show (w.alloc (.cells (idxC pf cf pr cr pe ce x) 33)).heap.size = w.heap.size + 1 from by simp] at h
    exact h
  clear hx hsm hm hW0
  unfold idxC at *
  go_enter Tryz.func49, Tryz.ntmps49
  go_wp2_with fail
  rw [HE0.out]
  clear HE0
  refine (HF.out _ hb0).mono ?_
  rintro e w1 ⟨rfl, hb1⟩
  have hbw1 : Below w.heap.size w w1 := hb0.trans (hb1.mono hb0.size)
  have HX1 : Hid (Blk w1 w.heap.size #[.slice pf x.fields.length cf, .slice pr x.rows.length cr, .slice pe x.ents.length ce, .int .i64 x.next] 33) := HX0.out.below hb1 HX0.out.lt
  have HR1 : Hid (Blk w1 (w.heap.size + 1) #[.map none, .slice none 0 0] 82) := HR0.out.below hb1 HR0.out.lt
  have x3 := HX1.out.cell 3
  simp at x3
  clear HX0 HR0 hb1
  cases hfb : fieldsB x.fields with
  | false =>
    have y0 := HR1.out.cell 0
    have y1 := HR1.out.cell 1
    have z0 := HR1.out.frozen 0
    have z1 := HR1.out.frozen 1
    simp at y0 y1
    have HBAD : Hid (false = idxP x) := by unfold Hid; rw [HP.out, hfb]; rfl
    have k0 := ((HR1.out.set 0 (.map none)).set 1 (.slice none 0 0)).cell 0
    have k1 := ((HR1.out.set 0 (.map none)).set 1 (.slice none 0 0)).cell 1
    simp at k0 k1
    go_wp2
    refine bodyPost_ret (v := .tuple #[.agg #[.map none, .slice none 0 0], .bool false]) (by simp [results, Tryz.results49, go_sem, k0, k1]) rfl ⟨none, none, 0, 0, false, rfl, HBAD.out, (fun h => by cases h), (hbw1.setCell (Nat.le_succ w.heap.size) _).setCell (Nat.le_succ w.heap.size) _⟩
  | true =>
    by_cases hn0 : x.next < 0
    · have y0 := HR1.out.cell 0
      have y1 := HR1.out.cell 1
      have z0 := HR1.out.frozen 0
      have z1 := HR1.out.frozen 1
      simp at y0 y1
      have HBAD : Hid (false = idxP x) := by unfold Hid; rw [HP.out, hfb, decide_eq_true hn0]; rfl
      have k0 := ((HR1.out.set 0 (.map none)).set 1 (.slice none 0 0)).cell 0
      have k1 := ((HR1.out.set 0 (.map none)).set 1 (.slice none 0 0)).cell 1
      simp at k0 k1
      go_wp2
      refine bodyPost_ret (v := .tuple #[.agg #[.map none, .slice none 0 0], .bool false]) (by simp [results, Tryz.results49, go_sem, k0, k1]) rfl ⟨none, none, 0, 0, false, rfl, HBAD.out, (fun h => by cases h), (hbw1.setCell (Nat.le_succ w.heap.size) _).setCell (Nat.le_succ w.heap.size) _⟩
    · by_cases hn1 : 999999999 < x.next
      · have y0 := HR1.out.cell 0
        have y1 := HR1.out.cell 1
        have z0 := HR1.out.frozen 0
        have z1 := HR1.out.frozen 1
        simp at y0 y1
        have HBAD : Hid (false = idxP x) := by unfold Hid; rw [HP.out, hfb, decide_eq_false hn0, decide_eq_true hn1]; rfl
        have k0 := ((HR1.out.set 0 (.map none)).set 1 (.slice none 0 0)).cell 0
        have k1 := ((HR1.out.set 0 (.map none)).set 1 (.slice none 0 0)).cell 1
        simp at k0 k1
        go_wp2
        refine bodyPost_ret (v := .tuple #[.agg #[.map none, .slice none 0 0], .bool false]) (by simp [results, Tryz.results49, go_sem, k0, k1]) rfl ⟨none, none, 0, 0, false, rfl, HBAD.out, (fun h => by cases h), (hbw1.setCell (Nat.le_succ w.heap.size) _).setCell (Nat.le_succ w.heap.size) _⟩
      · have HD0 : Hid (decide (x.next < 0) = false) := decide_eq_false hn0
        have HD1 : Hid (decide (999999999 < x.next) = false) := decide_eq_false hn1
        have x0 := HX1.out.cell 0
        have x1 := HX1.out.cell 1
        have x2 := HX1.out.cell 2
        simp at x0 x1 x2
        go_wp2_with fail
        refine (HR.out _ hbw1).mono ?_
        rintro e w2 ⟨rfl, hb2⟩
        have hbw2 : Below w.heap.size w w2 := hbw1.trans (hb2.mono hbw1.size)
        have HX2 : Hid (Blk w2 w.heap.size #[.slice pf x.fields.length cf, .slice pr x.rows.length cr, .slice pe x.ents.length ce, .int .i64 x.next] 33) := HX1.out.below hb2 HX1.out.lt
        have HR2 : Hid (Blk w2 (w.heap.size + 1) #[.map none, .slice none 0 0] 82) := HR1.out.below hb2 HR1.out.lt
        clear HX1 HR1 hb2 x0 x1 x2 x3
        cases hro : rowsOkB x with
        | false =>
          have y0 := HR2.out.cell 0
          have y1 := HR2.out.cell 1
          have z0 := HR2.out.frozen 0
          have z1 := HR2.out.frozen 1
          simp at y0 y1
          have HBAD : Hid (false = idxP x) := by unfold Hid; rw [HP.out, hfb, HD0.out, HD1.out, hro]; rfl
          have k0 := ((HR2.out.set 0 (.map none)).set 1 (.slice none 0 0)).cell 0
          have k1 := ((HR2.out.set 0 (.map none)).set 1 (.slice none 0 0)).cell 1
          simp at k0 k1
          go_wp2
          refine bodyPost_ret (v := .tuple #[.agg #[.map none, .slice none 0 0], .bool false]) (by simp [results, Tryz.results49, go_sem, k0, k1]) rfl ⟨none, none, 0, 0, false, rfl, HBAD.out, (fun h => (by cases h)), (hbw2.setCell (Nat.le_succ w.heap.size) _).setCell (Nat.le_succ w.heap.size) _⟩
        | true =>
          have HP2 : Hid (idxP x = decide (madeE x.fields x.rows = x.ents)) := by unfold Hid; rw [HP.out, hfb, HD0.out, HD1.out, hro]; rfl
          have x0 := HX2.out.cell 0
          have x1 := HX2.out.cell 1
          simp at x0 x1
          go_wp2_with fail
          refine (HW.out (rowsOk_small hro) _ hbw2).mono ?_
          rintro e w3 ⟨b0, bw, vo, rfl, ⟨s, ib, vl, fp, had, hrel⟩, hen, hb3⟩
          obtain ⟨po, co, rfl, _, _, _, hpx⟩ := row_val had.od
          have hbw3 : Below w.heap.size w w3 := hbw2.trans (hb3.mono hbw2.size)
          have HX3 : Hid (Blk w3 w.heap.size #[.slice pf x.fields.length cf, .slice pr x.rows.length cr, .slice pe x.ents.length ce, .int .i64 x.next] 33) := HX2.out.below hb3 HX2.out.lt
          have HR3 : Hid (Blk w3 (w.heap.size + 1) #[.map none, .slice none 0 0] 82) := HR2.out.below hb3 HR2.out.lt
          have h23 := hbw2.size
          have HAD : Hid (AddS w3 w.heap.size bw b0 s 2000000 ib vl fp (.slice po s.o.length co)) := ⟨⟨had.wm.out, fun f b h => ⟨(had.wm.inn f b h).1, Nat.le_trans h23 (had.wm.inn f b h).2⟩, had.wm.nil, had.wm.inj, had.wm.n0, Nat.le_trans h23 had.wm.b0B, fun f t => ⟨(had.wm.el f t).1, fun b hb => Nat.le_trans h23 ((had.wm.el f t).2 b hb)⟩, had.wm.emp, had.wm.ap, had.wm.sz⟩, had.bx, ownsRow_mono had.od h23⟩
          have HRL : Hid (WRel (madeE x.fields x.rows) s) := hrel
          have HEN : Hid (EntsN (madeE x.fields x.rows) 1000000) := hen
          clear HX2 HR2 hb3 x0 x1 had hrel hen hpx
          generalize s.o.length = no at *
          obtain ⟨E, hE⟩ : ∃ E, madeE x.fields x.rows = E := ⟨_, rfl⟩
          have HFINW : Hid (WRel (madeE x.fields x.rows) s ∧ EntsN (madeE x.fields x.rows) 1000000) := ⟨HRL.out, HEN.out⟩
          have HRL : Hid (WRel E s) := by rw [← hE]; exact HRL
          have HEN : Hid (EntsN E 1000000) := by rw [← hE]; exact HEN
          have HP3 : Hid (idxP x = decide (E = x.ents)) := by rw [← hE]; exact HP2
          obtain ⟨W4, hW4⟩ : ∃ W4, w3.alloc (.cells #[.map (some b0), .slice po no co] 82) = W4 := ⟨_, rfl⟩
          have hba : Below w3.heap.size w3 W4 := by rw [← hW4]; exact (Below.refl _ _).alloc (Nat.le_refl _) _
          have hbw4 : Below w.heap.size w W4 := hbw3.trans (hba.mono hbw3.size)
          have HV4 : Hid (Blk W4 w3.heap.size #[.map (some b0), .slice po no co] 82) := by unfold Hid; rw [← hW4]; exact Blk.new _ _ _
          have HX4 : Hid (Blk W4 w.heap.size #[.slice pf x.fields.length cf, .slice pr x.rows.length cr, .slice pe x.ents.length ce, .int .i64 x.next] 33) := HX3.out.below hba HX3.out.lt
          have HR4 : Hid (Blk W4 (w.heap.size + 1) #[.map none, .slice none 0 0] 82) := HR3.out.below hba HR3.out.lt
          have hl3 := HR3.out.lt
          have HA4 : Hid (AddS W4 w.heap.size bw b0 s 2000000 ib vl fp (.slice po no co)) := HAD.out.below hba
          have hbwl := HAD.out.bx.lt
          have hl4 := hbw4.size
          have HEN2 : Hid (∀ wx, Below W4.heap.size W4 wx → Calls Tryz.prog 94 #[.agg #[.map (some b0), .slice po no co]] wx fun e w' => ∃ p c, e = .returned (.slice p E.length c) ∧ EntRow w' p E ∧ Below wx.heap.size wx w') := fun wx h => by
            refine (entries_any w.heap.size bw b0 2000000 1000000 E s ib vl fp _ wx (by have := h.size; omega) (Nat.le_refl _) HEN.out (HA4.out.below h) HRL.out).mono ?_
            rintro e w' ⟨v, rfl, hg, hb⟩
            obtain ⟨p, c, rfl, _, _, her⟩ := hg.ents
            exact ⟨p, c, rfl, her, hb⟩
          obtain ⟨dd, HDD⟩ : ∃ dd, Hid (decide (E = x.ents) = dd) := ⟨_, rfl⟩
          have HEQ : Hid (∀ wx p c, Below w.heap.size w wx → EntRow wx p E → Calls Tryz.prog 93 #[.slice p E.length c, .slice pe x.ents.length ce, .func (.func 95) #[] #[]] wx fun e w' => e = .returned (.bool dd) ∧ Below wx.heap.size wx w') := fun wx p c h her => by
            rw [← HDD.out]
            exact equalEntries_any p pe c ce E x.ents wx (HEN.out.sm (by decide)) HES.out her (HE.out wx h)
          have HE4 : Hid (w3.alloc (.cells #[.map (some b0), .slice po no co] 82) = W4) := hW4
          rw [HDD.out] at HP3
          have v0 := HV4.out.cell 0
          have v1 := HV4.out.cell 1
          have x2 := HX4.out.cell 2
          simp at v0 v1 x2
          clear hW4 hba HX3 HR3 HAD HP2 hE HDD
          go_wp2_with fail
          rw [HE4.out]
          have hbd : Below W4.heap.size W4 W4.drew := below_drew (Below.refl _ _)
          go_region_law (first
            | (go_simp; go_at_call 94; refine (HEN2.out _ hbd).mono ?_; rintro e w5 ⟨p5, c5, rfl, her, hb5d⟩; have hb5 : Below W4.heap.size W4 w5 := ⟨hb5d.os, hb5d.tape, hb5d.output, hb5d.size, hb5d.block⟩; have u2 := (HX4.out.below hb5 HX4.out.lt).cell 2; simp at u2; have HB5 : Hid (Below W4.heap.size W4 w5) := hb5; have HEQ5 := HEQ.out w5 p5 c5 (hbw4.trans (hb5.mono hl4)) her; clear hb5d hb5 her)
            | (go_simp; go_at_call 93; refine HEQ5.mono ?_; rintro e w6 ⟨rfl, hb6⟩; have HB6 : Hid (Below W4.heap.size W4 w6) := HB5.out.trans (hb6.mono HB5.out.size); clear hb6 HEQ5 HB5 u2)
            | fail)
          all_goals
            have hb6 := HB6.out
            have hbw6 : Below w.heap.size w w6 := hbw4.trans (hb6.mono hl4)
            have HR6 : Hid (Blk w6 (w.heap.size + 1) #[.map none, .slice none 0 0] 82) := HR4.out.below hb6 HR4.out.lt
            have HV6 : Hid (Blk w6 w3.heap.size #[.map (some b0), .slice po no co] 82) := HV4.out.below hb6 HV4.out.lt
            have HA6 : Hid (AddS w6 w.heap.size bw b0 s 2000000 ib vl fp (.slice po no co)) := HA4.out.below hb6
            clear HB6 hb6 HR4 HV4 HA4 HX4 HEN2 HEQ v0 v1 x2 HR HF HW
            cases dd with
            | false =>
              have y0 := HR6.out.cell 0
              have y1 := HR6.out.cell 1
              have z0 := HR6.out.frozen 0
              have z1 := HR6.out.frozen 1
              simp at y0 y1
              have HBAD : Hid (false = idxP x) := by unfold Hid; rw [HP3.out]
              have k0 := ((HR6.out.set 0 (.map none)).set 1 (.slice none 0 0)).cell 0
              have k1 := ((HR6.out.set 0 (.map none)).set 1 (.slice none 0 0)).cell 1
              simp at k0 k1
              go_wp2
              refine bodyPost_ret (v := .tuple #[.agg #[.map none, .slice none 0 0], .bool false]) (by simp [results, Tryz.results49, go_sem, k0, k1]) rfl ⟨none, none, 0, 0, false, rfl, HBAD.out, (fun h => (by cases h)), (hbw6.setCell (Nat.le_succ w.heap.size) _).setCell (Nat.le_succ w.heap.size) _⟩
            | true =>
              have HGOOD : Hid (true = idxP x) := by unfold Hid; rw [HP3.out]
              have HXE : Hid (WRel (madeE x.fields x.rows) s ∧ EntsN (madeE x.fields x.rows) 1000000) := HFINW.out
              have hne : w.heap.size + 1 ≠ bw := fun e => by
                have h1 := HR6.out
                have h2 := HA6.out.bx
                unfold Blk at h1 h2
                rw [e, h2] at h1
                cases h1
              have y0 := HR6.out.cell 0
              have y1 := HR6.out.cell 1
              have z0 := HR6.out.frozen 0
              have z1 := HR6.out.frozen 1
              have u0 := HV6.out.cell 0
              have u1 := HV6.out.cell 1
              simp at y0 y1 u0 u1
              have k0 := ((HR6.out.set 0 (.map (some b0))).set 1 (.slice po no co)).cell 0
              have k1 := ((HR6.out.set 0 (.map (some b0))).set 1 (.slice po no co)).cell 1
              simp at k0 k1
              go_wp2
              refine bodyPost_ret (v := .tuple #[.agg #[.map (some b0), .slice po no co], .bool true]) (by simp [results, Tryz.results49, go_sem, k0, k1]) rfl ⟨some b0, po, no, co, true, rfl, HGOOD.out, (fun _ => ?_), (hbw6.setCell (Nat.le_succ w.heap.size) _).setCell (Nat.le_succ w.heap.size) _⟩
              exact ⟨bw, b0, s, ib, vl, fp, rfl, HA6.out.tch ((Tch.set (by simp) _).trans (Tch.set (by simp) _)) HR6.out hne, HXE.out.1, HXE.out.2⟩
set_option maxHeartbeats 2000000 in
theorem indexOkI_any (pf : Option Addr) (cf : Nat) (pr : Option Addr) (cr : Nat) (pe : Option Addr) (ce : Nat) (x : Idx) (w : World) (hsm : IdxSm x) (hx : IdxAt w pf cf pr cr pe ce x) (hm : MaxL w) :
    Calls Tryz.prog 12 #[.agg (idxC pf cf pr cr pe ce x)] w fun e w' => EqB (idxB x) w w' e := by
  have HW : Hid (∀ wx, Below w.heap.size w wx → Calls Tryz.prog 49 #[.agg (idxC pf cf pr cr pe ce x)] wx fun e w' => WordsA x wx w' e) := fun wx h => indexWords_any pf cf pr cr pe ce x wx hsm (hx.below h) (hm.below h)
  obtain ⟨W0, hW0⟩ : ∃ W0, w.alloc (.cells (idxC pf cf pr cr pe ce x) 33) = W0 := ⟨_, rfl⟩
  have hb0 : Below w.heap.size w W0 := by rw [← hW0]; exact (Below.refl _ w).alloc (Nat.le_refl _) _
  have X0 : Blk W0 w.heap.size (idxC pf cf pr cr pe ce x) 33 := by rw [← hW0]; exact Blk.new _ _ _
  rw [← idxP_eq]
  unfold idxC at *
  have x0 := X0.cell 0
  have x1 := X0.cell 1
  have x2 := X0.cell 2
  have x3 := X0.cell 3
  simp at x0 x1 x2 x3
  clear hsm hx hm X0
  go_enter Tryz.func12, Tryz.ntmps12
  go_wp2_with fail
  refine (HW.out _ hb0).mono ?_
  rintro e w1 ⟨mb, po, no, co, b, rfl, rfl, _, hb1⟩
  have hbw := hb0.trans (hb1.mono hb0.size)
  clear x0 x1 x2 x3 hb1
  go_wp2
  go_ret
  exact ⟨rfl, hbw.alloc hbw.size _⟩
end Go.Proofs.YtbifagdcnpnpjaaGreat
