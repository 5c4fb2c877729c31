/- DocOk of the model. -/
import Derived.Test.YtjkimadnopeakaaGreatDoorL2Tags
namespace Go.Proofs.YtjkimadnopeakaaGreatDoor
open Go.RowKit
set_option linter.unusedVariables false

theorem wpStill_want {P : Program} {ops : Array Oper} {w : World} {Q : Act → Prop} {a : Act} {o : Oper} {rest : List Oper} (hw : Region.wanted o (yielded ops a.tmps) = true)
    (h : ∀ K : Act → Prop, (∀ a, wpStill P ops w Q rest a → K a) → o.still P a w K) : wpStill P ops w Q (o :: rest) a := by
  unfold wpStill
  rw [if_pos hw]
  exact h _ (fun _ h => h)
theorem oneK_want {P : Program} {l : List Oper} {n : Nat} {Q : Exit → Act → World → Prop} {o : Oper} {w : World} {a : Act} (hw : Region.wanted o (yielded l.toArray a.tmps) = true)
    (h : o.wp P a w (fun a' w' => RestK P l n Q w' a') Q) : OneK P l n Q o w a := by
  unfold OneK
  rw [if_pos hw]
  exact h
/-- As the model goes through the cells. -/
def scelOk (fs : List Fld) (cs : List Cel) (i : Nat) : Bool := decide (fidx fs (cat cs i).name < fs.length) && cellS (fat fs (fidx fs (cat cs i).name)).kind (cat cs i).text
theorem kind_of {fs : List Fld} (h : fieldsB fs = true) (k : Nat) (hk : k < fs.length) : (fat fs k).kind = 1 ∨ (fat fs k).kind = 2 ∨ (fat fs k).kind = 3 := by
  simp only [fieldsB, Bool.and_eq_true, decide_eq_true_eq, allTo_iff] at h
  have h2 := h.2 k hk
  simp only [fldOk, Bool.and_eq_true] at h2
  have h3 := h2.2
  unfold wOk at h3
  by_cases e1 : (fat fs k).kind = 1
  · exact .inl e1
  by_cases e2 : (fat fs k).kind = 2
  · exact .inr (.inl e2)
  by_cases e3 : (fat fs k).kind = 3
  · exact .inr (.inr e3)
  simp [e1, e2, e3] at h3
theorem scel_same {fs : List Fld} {key : ByteArray} {cs : List Cel} (hf : fieldsB fs = true) (hg : formB key cs = true) (k : Nat) (hk : k < cs.length) : scelOk fs cs k = dcelOk fs cs k := by
  unfold scelOk dcelOk
  by_cases hi : fidx fs (cat cs k).name < fs.length
  · rw [decide_eq_true hi, Bool.true_and, Bool.true_and]
    refine cell_same (kind_of hf _ hi) ?_
    simp only [formB, Bool.and_eq_true, allTo_iff] at hg
    have := hg.2 k hk
    simp only [celOk, Bool.and_eq_true] at this
    first | exact this.2 | exact this.1.2 | exact this.1.1
  · rw [decide_eq_false hi]
    rfl
theorem doc_end {fs : List Fld} {key : ByteArray} {cs : List Cel} (h : allTo (scelOk fs cs) cs.length = true) : docOkB fs key cs = (fieldsB fs && formB key cs) := by
  unfold docOkB
  cases hf : fieldsB fs with
  | false => rfl
  | true =>
    cases hg : formB key cs with
    | false => rfl
    | true =>
      rw [show allTo (dcelOk fs cs) cs.length = true from (allTo_iff _ _).2 fun j hj => by rw [← scel_same hf hg j hj]; exact (allTo_iff _ _).1 h j hj]
      rfl
theorem doc_no {fs : List Fld} {key : ByteArray} {cs : List Cel} {k : Nat} (hk : k < cs.length) (h : scelOk fs cs k = false) : docOkB fs key cs = false := by
  cases hf : fieldsB fs with
  | false => unfold docOkB; rw [hf]; rfl
  | true =>
    cases hg : formB key cs with
    | false => unfold docOkB; rw [hf, hg]; rfl
    | true => exact docOk_no hk (by rw [← scel_same hf hg k hk]; exact h)

set_option maxRecDepth 100000 in
set_option maxHeartbeats 1000000 in
theorem docOkS_any (a : Option Addr) (capf : Nat) (fs : List Fld) (key : ByteArray) (p : Option Addr) (capc : Nat) (cs : List Cel) (w : World) (hzf : fs.length ≤ 1048576) (hsf : FldsSmall fs) (hrf : FldRow w a fs)
    (hk : key.size ≤ 1048576) (hzc : cs.length ≤ 1048576) (hsc : CelsSmall cs) (hrc : CelRow w p cs) :
    Calls Tryz.prog 22 #[.slice a fs.length capf, .agg #[.string key, .slice p cs.length capc]] w fun e w' => e = .returned (.bool (docOkB fs key cs)) ∧ Below w.heap.size w w' := by
  have hb0 : Below w.heap.size w (w.alloc (.cells #[.string key, .slice p cs.length capc] 37)) := (Below.refl _ w).alloc (Nat.le_refl _) _
  have B0 := Blk.new w #[.string key, .slice p cs.length capc] 37
  have HSC : Hid (CelsSmall cs) := hsc
  have HRF : Hid (FldRow (w.alloc (.cells #[.string key, .slice p cs.length capc] 37)) a fs) := hrf.below hb0
  have HRC : Hid (CelRow (w.alloc (.cells #[.string key, .slice p cs.length capc] 37)) p cs) := hrc.below hb0
  have HFS : Hid (∀ wx, FldRow wx a fs → Calls Tryz.prog 53 #[.slice a fs.length capf] wx fun e w' => e = .returned (.bool (fieldsB fs)) ∧ Below wx.heap.size wx w') := fun wx h => fieldsS_any a capf fs wx hzf hsf h
  clear hsc hrf hrc hsf
  go_enter Tryz.func22, Tryz.ntmps22
  obtain ⟨W, hW⟩ : ∃ W, w.alloc (.cells #[.string key, .slice p cs.length capc] 37) = W := ⟨_, rfl⟩
  rw [hW] at hb0 B0 HRF HRC
  have hl0 := B0.lt
  go_wp2
  clear hW
  go_loopw [5] (fun i wr => ∃ k : Nat, k ≤ cs.length ∧ i = .int .i64 k ∧ allTo (scelOk fs cs) k = true ∧ Below W.heap.size W wr) (fun i _ => cs.length - (intOf i).toNat)
  case atStart => exact ⟨0, Nat.zero_le _, rfl, rfl, Below.refl _ _⟩
  case round =>
    obtain ⟨k, hk2, rfl, ha, hbel⟩ := hrel
    have HA : Hid (allTo (scelOk fs cs) k = true) := ha
    clear ha
    have hbw := below_trans hb0 hbel
    have B1 := B0.below hbel hl0
    have k0 := B1.cell 0
    have k1 := B1.cell 1
    simp at k0 k1
    by_cases hlt : k < cs.length
    · have hks : (k : Int) < (cs.length : Int) := by omega
      have hrc := HRC.out.below hbel
      have HRF1 : Hid (FldRow wr a fs) := HRF.out.below hbel
      obtain ⟨g, off, rfl, hg, hc⟩ := hrc (by omega)
      obtain ⟨c0, c1⟩ := hc k hlt
      have hsz := HSC.out k hlt
      have HNO : Hid (scelOk fs cs k = false → docOkB fs key cs = false) := doc_no hlt
      have HYS : Hid (scelOk fs cs k = true → allTo (scelOk fs cs) (k + 1) = true) := fun h => allTo_snoc _ k HA.out h
      have HDF : Hid (scelOk fs cs k = (decide (fidx fs (cat cs k).name < fs.length) && cellS (fat fs (fidx fs (cat cs k).name)).kind (cat cs k).text)) := rfl
      generalize cat cs k = cl at *
      obtain ⟨nm, tx⟩ := cl
      simp only at c0 c1 hsz HDF
      clear hc hrc
      go_wp2_with fail
      refine (l2Field_any a capf fs nm _ hzf HRF1.out).mono ?_
      rintro e w2 ⟨q, rfl, hpos, rfl⟩
      rcases fpos_idx hpos with ⟨j, rfl, hj, hfi⟩ | ⟨rfl, hfi⟩
      · have hj0 : decide ((j : Int) < 0) = false := decide_eq_false (by omega)
        have hji : (j : Int) < (fs.length : Int) := by omega
        obtain ⟨gf, of, rfl, hgf, hcf⟩ := HRF1.out (by omega)
        obtain ⟨f0, f1, f2⟩ := hcf j hj
        have HDF2 : Hid (scelOk fs cs k = cellS (fat fs j).kind tx) := by unfold Hid; rw [HDF.out, hfi, decide_eq_true hj]; rfl
        generalize fat fs j = ff at *
        obtain ⟨fn, kd, wt⟩ := ff
        simp only at f0 f1 f2 HDF2
        clear HDF hfi hpos hcf
        go_wp2
        refine wp_region_still_one 13 (by kernel_rfl) (by kernel_rfl) rfl ?_
        simp only [List.take_succ_cons, List.take_zero]
        still_step
        still_step
        still_step
        refine wpStill_want rfl (fun K hK => ?_)
        go_simp
        refine hK _ ?_
        clear hK K
        refine wpStill_want rfl (fun K hK => ?_)
        go_simp
        refine hK _ ?_
        clear hK K
        refine wpStill_want rfl (fun K hK => ?_)
        go_simp
        refine hK _ ?_
        clear hK K
        refine wpStill_want rfl (fun K hK => ?_)
        go_simp
        refine hK _ ?_
        clear hK K
        refine wpStill_want rfl (fun K hK => ?_)
        go_simp
        refine hK _ ?_
        clear hK K
        refine wpStill_want rfl (fun K hK => ?_)
        go_simp
        refine hK _ ?_
        clear hK K
        refine wpStill_want rfl (fun K hK => ?_)
        go_simp
        refine hK _ ?_
        clear hK K
        refine wpStill_want rfl (fun K hK => ?_)
        go_simp
        refine hK _ ?_
        clear hK K
        refine wpStill_want rfl (fun K hK => ?_)
        go_simp
        refine hK _ ?_
        clear hK K
        refine wpStill_want rfl (fun K hK => ?_)
        go_simp
        refine hK _ ?_
        clear hK K
        refine wpStill_nil ?_
        refine oneK_want rfl ?_
        go_simp
        go_at_call 52
        refine (l2Cell_any fn kd wt tx _ hsz.2).mono ?_
        rintro e w3 ⟨rfl, hb3d⟩
        have hb3 : Below w2.heap.size w2 w3 := ⟨hb3d.os, hb3d.tape, hb3d.output, hb3d.size, hb3d.block⟩
        have HB3 : Hid (Below W.heap.size W w3) := hbel.trans (hb3.mono hbel.size)
        clear hb3d hb3
        unfold RestK
        simp only [List.drop_succ_cons, List.drop_zero]
        cases hb : cellS kd tx with
        | false =>
          have HF : Hid (docOkB fs key cs = false) := HNO.out (by rw [HDF2.out, hb])
          repeat (go_big_quiet_step (fail))
          refine wpQuiet_nil ?_
          intro _ hw'
          obtain ⟨nq, hw''⟩ := hw'
          subst hw''
          go_wp2
          go_ret
          exact ⟨ret_bool HF.out.symm, below_drewN (below_trans hb0 HB3.out) _⟩
        | true =>
          have HY : Hid (allTo (scelOk fs cs) (k + 1) = true) := HYS.out (by rw [HDF2.out, hb])
          repeat (go_big_quiet_step (fail))
          refine wpQuiet_nil ?_
          intro _ hw'
          obtain ⟨nq, hw''⟩ := hw'
          subst hw''
          go_wp2
          go_roundw
          case rel => exact ⟨k + 1, by omega, by go_num, HY.out, below_drewN HB3.out _⟩
          case measure => simp [intOf]; omega
      · have hj0 : ((-1 : Int) < 0) := by omega
        have HF : Hid (docOkB fs key cs = false) := HNO.out (by rw [HDF.out, hfi]; simp)
        clear HDF hfi hpos
        go_wp2
        go_quiet (fail)
        go_wp2
        go_ret
        exact ⟨ret_bool HF.out.symm, below_drewN hbw _⟩
    · have hkl : k = cs.length := by omega
      subst hkl
      have HDE : Hid (docOkB fs key cs = (fieldsB fs && formB key cs)) := doc_end HA.out
      have HRF1 : Hid (FldRow wr a fs) := HRF.out.below hbel
      have HRC1 : Hid (CelRow wr p cs) := HRC.out.below hbel
      go_wp2_with fail
      refine (HFS.out _ HRF1.out).mono ?_
      rintro e w3 ⟨rfl, hb3⟩
      have B3 := B1.below hb3 B1.lt
      clear k0 k1
      have k0 := B3.cell 0
      have k1 := B3.cell 1
      simp at k0 k1
      cases hf : fieldsB fs with
      | false =>
        rw [hf] at HDE
        go_wp2
        go_ret
        exact ⟨ret_bool HDE.out.symm, below_trans hbw hb3⟩
      | true =>
        rw [hf, Bool.true_and] at HDE
        go_wp2_with fail
        refine (l2Form_any key p capc cs _ hk hzc HSC.out (HRC1.out.below hb3)).mono ?_
        rintro e w4 ⟨rfl, hb4⟩
        generalize formB key cs = b at *
        go_wp2
        go_ret
        exact ⟨ret_bool HDE.out.symm, below_trans (below_trans hbw hb3) hb4⟩
end Go.Proofs.YtjkimadnopeakaaGreatDoor
