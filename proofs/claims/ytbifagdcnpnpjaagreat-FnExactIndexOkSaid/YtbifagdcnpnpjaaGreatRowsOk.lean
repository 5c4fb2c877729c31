/- rowsOk: whether the rows of an index are ok. -/
import Derived.Test.YtbifagdcnpnpjaaGreatRowsB
import Derived.Test.YtbifagdcnpnpjaaGreatQuietTail
import Derived.Test.YtbifagdcnpnpjaaGreatDocOkI
namespace Go.Proofs.YtbifagdcnpnpjaaGreat
open Go Go.Sort Go.RowKit Go.BigFrame
set_option linter.unusedVariables false

theorem RwRow.take {w : World} {a : Option Addr} {rs : List Rw} (h : RwRow w a rs) (k : Nat) : RwRow w a (rs.take k) := fun hp => by
  obtain ⟨g, off, e, hg, hc⟩ := h (by rw [List.length_take] at hp; omega)
  refine ⟨g, off, e, hg, fun i r hi => hc i r ?_⟩
  rw [List.getElem?_take] at hi
  split at hi
  · exact hi
  · cases hi
theorem idsOf_snoc (rs : List Rw) (k : Nat) (h : k < rs.length) : (idsOf (rs.take (k + 1))).map (Value.int .i64) = (idsOf (rs.take k)).map (Value.int .i64) ++ [.int .i64 rs[k].id] := by
  unfold idsOf
  rw [List.take_add_one, List.getElem?_eq_getElem h, List.map_append, List.map_append]
  rfl
theorem idsOf_len (rs : List Rw) (k : Nat) (h : k ≤ rs.length) : (idsOf (rs.take k)).length = k := by unfold idsOf; rw [List.length_map, List.length_take]; omega
set_option maxRecDepth 100000 in
set_option maxHeartbeats 8000000 in
theorem rowsOk_any (pf : Option Addr) (cf : Nat) (pr : Option Addr) (cr : Nat) (pe : Option Addr) (ce : Nat) (x : Idx) (w : World) (hsm : IdxSm x) (hx : IdxAt w pf cf pr cr pe ce x) (hm : MaxL w) :
    Calls Tryz.prog 91 #[.agg (idxC pf cf pr cr pe ce x)] w fun e w' => e = .returned (.bool (rowsOkB x)) ∧ Below w.heap.size w w' := by
  obtain ⟨fs, rs, es, nx⟩ := x
  obtain ⟨W0, hW0⟩ : ∃ W0, w.alloc (.cells (idxC pf cf pr cr pe ce ⟨fs, rs, es, nx⟩) 33) = W0 := ⟨_, rfl⟩
  have hb0 : Below w.heap.size w W0 := by rw [← hW0]; exact (Below.refl _ w).alloc (Nat.le_refl _) _
  have HB0 : Hid (Blk W0 w.heap.size (idxC pf cf pr cr pe ce ⟨fs, rs, es, nx⟩) 33) := by unfold Hid; rw [← hW0]; exact Blk.new _ _ _
  have HX : Hid (∀ wx, Below w.heap.size w wx → FldRow wx pf fs ∧ RwRow wx pr rs ∧ MaxL wx) := fun wx h => ⟨hx.f.below h, hx.r.below h, hm.below h⟩
  have HSM : Hid (∀ r ∈ rs, r.key.size ≤ 1048576 ∧ r.cells.length ≤ 1048576 ∧ CelsSmall r.cells) := hsm.rs.2
  have HFS : Hid (FldsSmall fs) := hsm.fs
  have hfl : fs.length ≤ 1048576 := hsm.fl
  have hrl : rs.length ≤ 1048576 := hsm.rs.1
  have hfc : fs.length ≤ cf := hx.hf
  have hrc : rs.length ≤ cr := hx.hr
  have HOK : Hid (rowsOkB ⟨fs, rs, es, nx⟩ = (decide (rs.length ≤ 8) && allTo (rowA fs rs) rs.length && ascB 0 (IntKind.i64.wrap (nx - 1)) (idsOf rs))) := rfl
  obtain ⟨ans, HANS⟩ : ∃ a, Hid (rowsOkB ⟨fs, rs, es, nx⟩ = a) := ⟨_, rfl⟩
  rw [HANS.out] at HOK ⊢
  have x1 := HB0.out.cell 1
  simp [idxC] at x1
  have HE0 : Hid (w.alloc (.cells (idxC pf cf pr cr pe ce ⟨fs, rs, es, nx⟩) 33) = W0) := hW0
  clear hx hsm hm
  unfold idxC at *
  simp only at *
  obtain ⟨i0, hi, hz0, hz1, hz2⟩ := info_parts infoInt
  go_enter Tryz.func91, Tryz.ntmps91
  rcases Nat.lt_or_ge 8 rs.length with h8 | h8
  · have h8I : (8 : Int) < (rs.length : Int) := by omega
    have HF : Hid (ans = false) := by unfold Hid; rw [HOK.out, decide_eq_false (by omega)]; rfl
    go_wp2
    go_ret
    exact ⟨by rw [HF.out]; rfl, hb0⟩
  · have h8I : ¬ (8 : Int) < (rs.length : Int) := by omega
    have HOK2 : Hid (ans = (allTo (rowA fs rs) rs.length && ascB 0 (IntKind.i64.wrap (nx - 1)) (idsOf rs))) := by unfold Hid; rw [HOK.out, decide_eq_true (by omega)]; rfl
    go_wp2_with fail
    clear HOK HE0 hW0 x1
    go_loopw [3, 13] (fun lv i wr => ∃ k : Nat, k ≤ rs.length ∧ i = .int .i64 k ∧ allTo (rowA fs rs) k = true ∧ wr.ownsRow W0.heap.size 3 1 lv k ((idsOf (rs.take k)).map (Value.int .i64)) ∧ Below W0.heap.size W0 wr) (fun _ i _ => rs.length - (intOf i).toNat)
    case atStart => exact ⟨0, Nat.zero_le _, rfl, rfl, World.ownsRow_nil _ _ _ _, Below.refl _ _⟩
    case round =>
      obtain ⟨k, hk, rfl, hall, how, hbr⟩ := hrel
      obtain ⟨pl, cl, rfl, hcl, _⟩ := row_val how
      have HOW : Hid (wr.ownsRow W0.heap.size 3 1 (.slice pl k cl) k ((idsOf (rs.take k)).map (Value.int .i64))) := how
      have HBR : Hid (Below W0.heap.size W0 wr) := hbr
      have HAL : Hid (allTo (rowA fs rs) k = true) := hall
      have hwr : Below w.heap.size w wr := hb0.trans (hbr.mono hb0.size)
      have HB1 : Hid (Blk wr w.heap.size #[.slice pf fs.length cf, .slice pr rs.length cr, .slice pe es.length ce, .int .i64 nx] 33) := HB0.out.below hbr HB0.out.lt
      have hs0 := hb0.size
      have hsr := hbr.size
      clear how hbr hall
      by_cases hlt : k < rs.length
      · have hltI : (k : Int) < (rs.length : Int) := by omega
        have hkc : (k : Int) ≤ (cr : Int) := by omega
        obtain ⟨gr, off, rfl, hgr, hc⟩ := (HX.out _ hwr).2.1 (by omega)
        obtain ⟨q, c, c0, c1, c2, hcl', hcel⟩ := hc k rs[k] (List.getElem?_eq_getElem hlt)
        have HTK : Hid ((idsOf (rs.take (k + 1))).map (Value.int .i64) = (idsOf (rs.take k)).map (Value.int .i64) ++ [.int .i64 rs[k].id]) := idsOf_snoc rs k hlt
        have HRA : Hid (rowA fs rs k = (docOkB fs rs[k].key rs[k].cells && !decide ((rowsW (rs.take k) rs[k].key).length < k))) := by unfold Hid rowA; rw [rat_get rs k hlt]
        obtain ⟨hy1, hy2, hy3⟩ := HSM.out rs[k] (List.getElem_mem hlt)
        clear hc
        generalize rs[k] = r at *
        obtain ⟨id, ky, cs⟩ := r
        simp only at c0 c1 c2 hcl' hcel HTK HRA hy1 hy2 hy3
        obtain ⟨VA, hVA⟩ : ∃ VA, wr.alloc (.cells #[.int .i64 id, .string ky, .slice q cs.length c] 69) = VA := ⟨_, rfl⟩
        have hba : Below wr.heap.size wr VA := by rw [← hVA]; exact (Below.refl _ _).alloc (Nat.le_refl _) _
        have BV : Blk VA wr.heap.size #[.int .i64 id, .string ky, .slice q cs.length c] 69 := by rw [← hVA]; exact Blk.new _ _ _
        have BX := HB1.out.below hba HB1.out.lt
        have hva : Below w.heap.size w VA := hwr.trans (hba.mono (by omega))
        have HOA : Hid (VA.ownsRow W0.heap.size 3 1 (.slice pl k cl) k ((idsOf (rs.take k)).map (Value.int .i64))) := by unfold Hid; rw [← hVA]; exact HOW.out.alloc _
        have HBA : Hid (Below W0.heap.size W0 VA) := HBR.out.trans (hba.mono hsr)
        have HCV : Hid (CelRow VA q cs) := hcel.below hba
        have HDO : Hid (∀ p : Regrown, Calls Tryz.prog 70 #[.slice pf fs.length cf, .agg #[.string ky, .slice q cs.length c]] (grow (redrawn VA p.d) p.os) fun e w' => e = .returned (.bool (docOkB fs ky cs)) ∧ Below (grow (redrawn VA p.d) p.os).heap.size (grow (redrawn VA p.d) p.os) w') := fun p =>
          docOkI_any pf cf fs ky q c cs _ hfl hfc HFS.out ((HX.out _ (hva.trans ((belowQ VA p).mono hva.size))).1) hy1 hy2 hy3 (HCV.out.below (belowQ VA p)) ((HX.out _ (hva.trans ((belowQ VA p).mono hva.size))).2.2)
        have HRW : Hid (∀ wx, Below VA.heap.size VA wx → RwRow wx (some ⟨gr, off, none⟩) (rs.take k)) := fun wx h => ((HX.out _ (hva.trans (h.mono hva.size))).2.1).take k
        have y0 := cellQ (BV.cell 1)
        have y1 := cellQ (BV.cell 2)
        have y2 := cellQ (BX.cell 0)
        have y3 := cellQ (BX.cell 1)
        simp at y0 y1 y2 y3
        have HVA : Hid (wr.alloc (.cells #[.int .i64 id, .string ky, .slice q cs.length c] 69) = VA) := hVA
        clear hVA hcel HOW HBR HB1
        cases hdo : docOkB fs ky cs with
        | false =>
          have HF : Hid (ans = false) := by
            unfold Hid
            rw [HOK2.out, allTo_false (rowA fs rs) rs.length k hlt (by rw [HRA.out, hdo]; rfl)]
            rfl
          rw [hdo] at HDO
          go_wp2_with fail
          rw [HVA.out]
          refine wp_region_quiet_below (by kernel_rfl) (by kernel_rfl) ?_
          repeat (go_big_quiet_step ((go_at_call 70; with_reducible exact Calls.regrown_of (HDO.out _))))
          refine wpQuiet_nil ?_
          intro _ hw'
          obtain ⟨pq, hw''⟩ := hw'
          subst hw''
          have hbp := hva.trans ((belowQ VA pq).mono hva.size)
          go_wp2
          go_ret
          exact ⟨by rw [HF.out]; rfl, hbp⟩
        | true =>
          have HD1 : Hid (Calls Tryz.prog 70 #[.slice pf fs.length cf, .agg #[.string ky, .slice q cs.length c]] VA.drew fun e w' => e = .returned (.bool true) ∧ Below VA.drew.heap.size VA.drew w') := by rw [← hdo]; exact docOkI_any pf cf fs ky q c cs _ hfl hfc HFS.out ((HX.out _ (below_drew hva)).1) hy1 hy2 hy3 (HCV.out.below (below_drew (Below.refl _ _))) ((HX.out _ (below_drew hva)).2.2)
          have y0 := BV.cell 1
          have y1 := BV.cell 2
          have y2 := BX.cell 0
          have y3 := BX.cell 1
          simp at y0 y1 y2 y3
          obtain ⟨n, HN⟩ : ∃ n, Hid ((rowsW (rs.take k) ky).length = n) := ⟨_, rfl⟩
          have htk : (rs.take k).length = k := by rw [List.length_take]; omega
          have HRC : Hid (∀ wx, Below VA.heap.size VA wx → Calls Tryz.prog 62 #[.slice (some ⟨gr, off, none⟩) k cr, .string ky] wx fun e w' => ∃ p c, e = .returned (.slice p n c) ∧ Below wx.heap.size wx w') := fun wx h => by
            have h1 := rowsWithout_any (some ⟨gr, off, none⟩) cr (rs.take k) ky wx (by omega) (HRW.out wx h)
            rw [htk, HN.out] at h1
            exact h1.mono fun e w' ⟨p, c, h2, _, _, _, h3⟩ => ⟨p, c, h2, h3⟩
          have HRA2 : Hid (rowA fs rs k = !decide (n < k)) := by unfold Hid; rw [HRA.out, hdo, HN.out]; rfl
          have HBV : Hid (Blk VA wr.heap.size #[.int .i64 id, .string ky, .slice q cs.length c] 69) := BV
          have HBX : Hid (Blk VA w.heap.size #[.slice pf fs.length cf, .slice (some ⟨gr, off, none⟩) rs.length cr, .slice pe es.length ce, .int .i64 nx] 33) := BX
          have hnb : n ≤ 1048576 := by have := rowsW_len (rs.take k) ky; rw [HN.out] at this; omega
          clear HDO HRA htk BV BX HN
          go_wp2_with fail
          rw [HVA.out]
          go_region_law (first
            | (go_simp; go_at_call 70; refine HD1.out.mono ?_; rintro e w3 ⟨rfl, hb3d⟩; have hb3 : Below VA.heap.size VA w3 := ⟨hb3d.os, hb3d.tape, hb3d.output, hb3d.size, hb3d.block⟩; have v1 := (HBV.out.below hb3 HBV.out.lt).cell 1; have x1 := (HBX.out.below hb3 HBX.out.lt).cell 1; simp at v1 x1; have HB3 : Hid (Below VA.heap.size VA w3) := hb3; have HRC3 := HRC.out w3 hb3; clear hb3d hb3)
            | (go_simp; go_at_call 62; refine HRC3.mono ?_; rintro e w4 ⟨p4, c4, rfl, hb4⟩; have HB4 : Hid (Below VA.heap.size VA w4) := HB3.out.trans (hb4.mono HB3.out.size); clear hb4 HRC3 HB3 v1 x1)
            | fail)
          all_goals
            have hbA := HB4.out
            have hs4 := hbA.size
            have hsa := HBA.out.size
            have hbw4 : Below w.heap.size w w4 := hva.trans (hbA.mono hva.size)
            have z0 := (HBV.out.below hbA HBV.out.lt).cell 0
            simp at z0
            have HO4 : Hid (w4.ownsRow W0.heap.size 3 1 (.slice pl k cl) k ((idsOf (rs.take k)).map (Value.int .i64))) := row_same HOA.out fun g hg => hbA.block g (HOA.out.lt g hg).2
            have HB5 : Hid (Below W0.heap.size W0 w4) := HBA.out.trans (hbA.mono hsa)
            clear HD1 HRC HRW HCV HOA HBA HBV HBX HB4 hbA y0 y1 y2 y3
            generalize (idsOf (rs.take k)).map (Value.int .i64) = xs at *
            by_cases hn : n < k
            · have hnI : (n : Int) < (k : Int) := by omega
              have HF : Hid (ans = false) := by
                unfold Hid
                rw [HOK2.out, allTo_false (rowA fs rs) rs.length k hlt (by rw [HRA2.out, decide_eq_true hn]; rfl)]
                rfl
              clear HOK2 HRA2 HTK HO4 HB5
              go_wp2
              go_ret
              exact ⟨by rw [HF.out]; rfl, hbw4⟩
            · have hnI : ¬ (n : Int) < (k : Int) := by omega
              have HAL2 : Hid (allTo (rowA fs rs) (k + 1) = true) := by
                have h1 : rowA fs rs k = true := by rw [HRA2.out, decide_eq_false hn]; rfl
                show (allTo (rowA fs rs) k && rowA fs rs k) = true
                rw [HAL.out, h1]
                rfl
              clear HAL HRA2
              go_wp2_with (at_builtin; refine wpList_append_own_at _ rfl _ _ 105 rfl W0.heap.size 3 i0 (.int .i64 0) 1 8 Tryz.underlying105 hi hz0 hz1 hz2 rfl (by decide) _ _ _ rfl (HO4.out.alloc _) ⟨w4.heap.size, 0, none⟩ 1 1 [.int .i64 id] rfl rfl (cells_new _ _ _) (int_one _) (by unfold maxLen; omega) (by omega) (by simp; omega) ?_)
              intro v9 w9 hown9 hgrow9 _ _
              have HO9 : Hid (w9.ownsRow W0.heap.size 3 1 v9 (k + 1) ((idsOf (rs.take (k + 1))).map (Value.int .i64))) := by unfold Hid; rw [HTK.out]; exact hown9
              have HB9 : Hid (Below W0.heap.size W0 w9) := by
                have h1 : Below W0.heap.size w4 (w4.alloc (.cells #[.int .i64 id] 3)) := (Below.refl _ _).alloc HB5.out.size _
                refine (HB5.out.trans h1).trans ⟨hgrow9.os, hgrow9.tape, hgrow9.output, hgrow9.size, fun b hb => hgrow9.block b (by have := HB5.out.size; simp; omega) (fun e => ?_)⟩
                have := (HO4.out.lt b e.symm).1
                omega
              clear hown9 hgrow9 HO4 HB5 HTK z0
              go_wp2
              go_roundw
              case rel => exact ⟨k + 1, by omega, by go_num, HAL2.out, HO9.out, HB9.out⟩
              case measure => simp [intOf]; omega
      · have hkl : k = rs.length := by omega
        subst hkl
        have ht : rs.take rs.length = rs := List.take_of_length_le (Nat.le_refl _)
        have hil : (idsOf rs).length = rs.length := by unfold idsOf; rw [List.length_map]
        have HAC : Hid (Calls Tryz.prog 119 #[.slice pl rs.length cl, .int .i64 0, .int .i64 (IntKind.i64.wrap (nx - 1))] wr fun e w' => e = .returned (.bool ans) ∧ w' = wr) := by
          have h1 := HOW.out
          rw [ht, ← hil] at h1
          obtain ⟨q, c, e, _, _, hrow⟩ := owns_ints h1
          have h2 := isAscending_any q c 0 (IntKind.i64.wrap (nx - 1)) (idsOf rs) wr (by omega) hrow
          rw [← e, hil] at h2
          have h3 : ans = ascB 0 (IntKind.i64.wrap (nx - 1)) (idsOf rs) := by rw [HOK2.out, HAL.out]; rfl
          rw [← h3] at h2
          exact h2
        have hwp : IntKind.i64.wrap (nx - 1) = wrap64 (nx - 1) := by unfold wrap64; exact IntKind.wrap_i64 _
        rw [hwp] at HAC
        have n3 := HB1.out.cell 3
        simp at n3
        clear ht hil hwp HOW HX HSM HAL HOK2 HB1 HB0
        go_wp2_with fail
        refine HAC.out.mono ?_
        rintro e w5 ⟨rfl, rfl⟩
        go_wp2
        go_ret
        exact ⟨rfl, hwr⟩
end Go.Proofs.YtbifagdcnpnpjaaGreat
