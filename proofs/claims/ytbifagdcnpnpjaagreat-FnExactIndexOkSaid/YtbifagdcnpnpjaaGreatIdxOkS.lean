/- IndexOk of the model. -/
import Derived.Test.YtbifagdcnpnpjaaGreatIdxMadeS2
import Derived.Test.YtbifagdcnpnpjaaGreatIdxToI
namespace Go.Proofs.YtbifagdcnpnpjaaGreat
open Go Go.Sort Go.RowKit Go.BigFrame
set_option linter.unusedVariables false

/-- What is asked of the k-th row; up: the greatest number. -/
def rowOkB (x : Idx) (up : Int) (k : Nat) : Bool :=
  docOkB x.fields (rat x.rows k).key (rat x.rows k).cells && (keyPos x.rows (rat x.rows k).key == (k : Int)) && inB (rat x.rows k).id 0 up && !(decide (0 < k) && decide ((rat x.rows k).id ≤ (rat x.rows (k - 1)).id))
def idxTo (x : Idx) (up : Int) : Nat → Bool
  | 0 => true
  | k + 1 => idxTo x up k && rowOkB x up k
def idxU (x : Idx) (up : Int) : Bool := idxTo x up x.rows.length && fieldsB x.fields && decide (x.rows.length ≤ 8) && inB x.next 0 999999999 && decide (madeE x.fields x.rows = x.ents)
def idxB (x : Idx) : Bool := idxU x (IntKind.i64.wrap (x.next - 1))
theorem idxTo_no {x : Idx} {up : Int} {k : Nat} (h : rowOkB x up k = false) : ∀ n, k < n → idxTo x up n = false
  | 0, hn => by omega
  | n + 1, hn => by
    unfold idxTo
    by_cases e : k = n
    · subst e; rw [h]; simp
    · rw [idxTo_no h n (by omega)]; rfl
theorem idxU_row {x : Idx} {up : Int} {k : Nat} (hk : k < x.rows.length) (h : rowOkB x up k = false) : idxU x up = false := by
  unfold idxU
  rw [idxTo_no h _ hk]
  rfl
theorem idxTo_at {x : Idx} {up : Int} : ∀ {n k : Nat}, idxTo x up n = true → k < n → rowOkB x up k = true
  | 0, k, _, hk => by omega
  | n + 1, k, h, hk => by
    unfold idxTo at h
    rw [Bool.and_eq_true] at h
    by_cases e : k = n
    · subst e; exact h.2
    · exact idxTo_at h.1 (by omega)
theorem form_of' {key : ByteArray} {cs : List Cel} (h : formB key cs = true) : key.size ≤ 8 ∧ cs.length ≤ 4 ∧ ∀ k, k < cs.length → (cat cs k).name.size ≤ 8 ∧ (cat cs k).text.size ≤ 60 := by
  simp only [formB, Bool.and_eq_true, decide_eq_true_eq, allTo_iff] at h
  have nm8 : ∀ s, nameI s = true → s.size ≤ 8 := fun s h => by
    simp only [nameI, Bool.and_eq_true, decide_eq_true_eq] at h
    omega
  refine ⟨nm8 _ h.1.1, h.1.2, fun k hk => ?_⟩
  have h2 := h.2 k hk
  simp only [celOk, Bool.and_eq_true] at h2
  refine ⟨nm8 _ h2.1.2, ?_⟩
  have h3 := h2.2
  simp only [textB, Bool.and_eq_true, decide_eq_true_eq] at h3
  omega
/-- Documents that are ok are small. -/
theorem docOk_small {fs : List Fld} {key : ByteArray} {cs : List Cel} (h : docOkB fs key cs = true) : CelsL cs := by
  unfold docOkB at h
  rw [Bool.and_eq_true, Bool.and_eq_true] at h
  obtain ⟨_, h2, h3⟩ := form_of' h.1.2
  exact ⟨by omega, fun i hi => by have := h3 i hi; omega⟩
theorem rows_small {x : Idx} {up : Int} (h : idxTo x up x.rows.length = true) (h8 : x.rows.length ≤ 8) : RwsL x.rows := by
  refine ⟨by omega, fun r hr => ?_⟩
  obtain ⟨i, hi, rfl⟩ := List.getElem_of_mem hr
  have h1 := idxTo_at h hi
  unfold rowOkB at h1
  rw [Bool.and_eq_true, Bool.and_eq_true, Bool.and_eq_true, rat_get _ _ hi] at h1
  exact docOk_small h1.1.1.1

set_option maxRecDepth 100000 in
set_option maxHeartbeats 4000000 in
theorem indexOkS_any (pf : Option Addr) (cf : Nat) (pr : Option Addr) (cr : Nat) (pe : Option Addr) (ce : Nat) (x : Idx) (w : World) (hs : IdxSm x) (hx : IdxAt w pf cf pr cr pe ce x) :
    Calls Tryz.prog 10 #[.agg (idxC pf cf pr cr pe ce x)] w fun e w' => EqB (idxB x) w w' e := by
  unfold idxC idxB
  obtain ⟨up, hup⟩ : ∃ up, IntKind.i64.wrap (x.next - 1) = up := ⟨_, rfl⟩
  rw [hup]
  obtain ⟨bb, HBB⟩ : ∃ bb, Hid (idxU x up = bb) := ⟨_, rfl⟩
  rw [HBB.out]
  obtain ⟨W0, hW0⟩ : ∃ W0, w.alloc (.cells #[.slice pf x.fields.length cf, .slice pr x.rows.length cr, .slice pe x.ents.length ce, .int .i64 x.next] 33) = W0 := ⟨_, rfl⟩
  have hb0 : Below w.heap.size w W0 := by rw [← hW0]; exact (Below.refl _ w).alloc (Nat.le_refl _) _
  have X0 : Blk W0 w.heap.size #[.slice pf x.fields.length cf, .slice pr x.rows.length cr, .slice pe x.ents.length ce, .int .i64 x.next] 33 := by rw [← hW0]; exact Blk.new w _ _
  have HX : Hid (∀ wx, Below w.heap.size w wx → IdxAt wx pf cf pr cr pe ce x) := fun wx h => hx.below h
  have HS : Hid (IdxSm x) := hs
  have hrl := hs.rs.1
  clear hx hs
  go_enter Tryz.func10, Tryz.ntmps10
  go_wp2
  go_loopw [3] (fun i wr => ∃ k : Nat, k ≤ x.rows.length ∧ i = .int .i64 k ∧ idxTo x up k = true ∧ Blk wr w.heap.size #[.slice pf x.fields.length cf, .slice pr x.rows.length cr, .slice pe x.ents.length ce, .int .i64 x.next] 33 ∧ Below w.heap.size w wr) (fun i _ => x.rows.length - (intOf i).toNat)
  case atStart => exact ⟨0, Nat.zero_le _, rfl, rfl, X0, hb0⟩
  case round =>
    clear X0 hb0 hW0
    obtain ⟨k, hk, rfl, hto, hX, hbel⟩ := hrel
    have HTO : Hid (idxTo x up k = true) := hto
    clear hto
    have x0 := hX.cell 0
    have x1 := hX.cell 1
    have x2 := hX.cell 2
    have x3 := hX.cell 3
    simp at x0 x1 x2 x3
    by_cases hlt : k < x.rows.length
    · have hltI : (k : Int) < (x.rows.length : Int) := by omega
      have hxa := HX.out _ hbel
      obtain ⟨g, off, rfl, hg, hc⟩ := hxa.r (by omega)
      obtain ⟨q, c, c0, c1, c2, hcl, hcel⟩ := hc k x.rows[k] (List.getElem?_eq_getElem hlt)
      have HRT : Hid (rat x.rows k = x.rows[k]) := rat_get _ _ hlt
      have hsr := HS.out.rs.2 _ (List.getElem_mem hlt)
      obtain ⟨W1, hW1⟩ : ∃ W1, wr.alloc (.cells #[.int .i64 x.rows[k].id, .string x.rows[k].key, .slice q x.rows[k].cells.length c] 69) = W1 := ⟨_, rfl⟩
      have hb1 : Below wr.heap.size wr W1 := by rw [← hW1]; exact (Below.refl _ wr).alloc (Nat.le_refl _) _
      have R1 : Blk W1 wr.heap.size #[.int .i64 x.rows[k].id, .string x.rows[k].key, .slice q x.rows[k].cells.length c] 69 := by rw [← hW1]; exact Blk.new wr _ _
      have X1 := hX.below hb1 hX.lt
      have hbw1 := hbel.trans (hb1.mono hbel.size)
      have HXW := HX.out _ hbw1
      have HCW := hcel.below hb1
      have HD : Hid (∀ p : Regrown, Calls Tryz.prog 40 #[.slice pf x.fields.length cf, .agg #[.string x.rows[k].key, .slice q x.rows[k].cells.length c]] (grow (redrawn W1 p.d) p.os) fun e w' => e = .returned (.bool (docOkB x.fields (rat x.rows k).key (rat x.rows k).cells)) ∧ Below (grow (redrawn W1 p.d) p.os).heap.size (grow (redrawn W1 p.d) p.os) w') := fun p => by
        rw [HRT.out]
        exact docOkS_any pf cf x.fields x.rows[k].key q c x.rows[k].cells _ HS.out.fl HS.out.fs (HXW.f.below (belowQ W1 p)) hsr.1 hsr.2.1 hsr.2.2 (HCW.below (belowQ W1 p))
      have HK : Hid (∀ p : Regrown, Calls Tryz.prog 41 #[.slice (some ⟨g, off, none⟩) x.rows.length cr, .string x.rows[k].key] (grow (redrawn W1 p.d) p.os) fun e w' => e = .returned (.int .i64 (keyPos x.rows (rat x.rows k).key)) ∧ Below (grow (redrawn W1 p.d) p.os).heap.size (grow (redrawn W1 p.d) p.os) w') := fun p => by
        rw [HRT.out]
        exact l4Key_any (some ⟨g, off, none⟩) cr x.rows x.rows[k].key _ hrl (HXW.r.below (belowQ W1 p))
      have HI : Hid (∀ p : Regrown, Calls Tryz.prog 42 #[.int .i64 x.rows[k].id, .int .i64 0, .int .i64 up] (grow (redrawn W1 p.d) p.os) fun e w' => e = .returned (.bool (inB (rat x.rows k).id 0 up)) ∧ Below (grow (redrawn W1 p.d) p.os).heap.size (grow (redrawn W1 p.d) p.os) w') := fun p => by
        rw [HRT.out]
        exact (l1In_any _ _ _ _).mono fun e w' ⟨h1, h2⟩ => ⟨h1, by rw [h2]; exact Below.refl _ _⟩
      have HPV : Hid (0 < k → ∀ (d : Nat) (os : Array Obj), (grow (redrawn W1 d) os).cell? ⟨g, off + (k - 1) * 3, none⟩ = some (.int .i64 (rat x.rows (k - 1)).id)) := fun hk0 d os => by
        obtain ⟨q', c', d0, _⟩ := hc (k - 1) (x.rows[k - 1]'(by omega)) (List.getElem?_eq_getElem (by omega))
        rw [rat_get _ _ (by omega)]
        exact cellQ ((hb1.cell (p := ⟨g, off + (k - 1) * 3, none⟩) hg).trans d0) d os
      have HID : Hid (x.rows[k].id = (rat x.rows k).id) := by unfold Hid; rw [HRT.out]
      have hr0 := R1.cell 0
      have hr1 := R1.cell 1
      have hr2 := R1.cell 2
      have hy0 := X1.cell 0
      have hy1 := X1.cell 1
      have hy2 := X1.cell 2
      have hy3 := X1.cell 3
      simp at hr0 hr1 hr2 hy0 hy1 hy2 hy3
      have e0 := cellQ hr0
      have e1 := cellQ hr1
      have e2 := cellQ hr2
      have f0 := cellQ hy0
      have f1 := cellQ hy1
      have f2 := cellQ hy2
      have f3 := cellQ hy3
      have g0 : wr.heap.size < W1.heap.size := R1.lt
      have g1 : w.heap.size < W1.heap.size := X1.lt
      have g2 : True := trivial
      have g3 : True := trivial
      clear hc hcel hxa HCW HXW HRT
      rw [HID.out] at e0 HI
      clear hr0 hr1 hr2 hy0 hy1 hy2 hy3
      cases hd : docOkB x.fields (rat x.rows k).key (rat x.rows k).cells with
      | false =>
        rw [hd] at HD
        have HBAD : Hid (bb = false) := by unfold Hid; rw [← HBB.out]; exact idxU_row hlt (by unfold rowOkB; rw [hd]; rfl)
        go_wp2
        refine wp_region_quiet_below (by kernel_rfl) (by kernel_rfl) ?_
        repeat (go_big_quiet_step ((first | (go_at_call 40; with_reducible exact Calls.regrown_of (HD.out _)) | (go_at_call 41; with_reducible exact Calls.regrown_of (HK.out _)) | (go_at_call 42; with_reducible exact Calls.regrown_of (HI.out _)))))
        refine wpQuiet_nil ?_
        intro _ hw'
        obtain ⟨pq, hw''⟩ := hw'
        subst hw''
        have hbq := belowQ W1 pq
        clear e0 e1 e2 f0 f1 f2 f3 g0 g1 g2 g3 HD HK HI
        go_wp2
        go_ret
        exact eqB_no HBAD.out (hbw1.trans (hbq.mono hbw1.size))
      | true =>
        rw [hd] at HD
        cases hkp : (keyPos x.rows (rat x.rows k).key == (k : Int)) with
        | false =>
          have hkn : (keyPos x.rows (rat x.rows k).key != (k : Int)) = true := by show (!(keyPos x.rows (rat x.rows k).key == (k : Int))) = true; rw [hkp]; rfl
          have HBAD : Hid (bb = false) := by unfold Hid; rw [← HBB.out]; exact idxU_row hlt (by unfold rowOkB; rw [hd, hkp]; rfl)
          go_wp2
          refine wp_region_quiet_below (by kernel_rfl) (by kernel_rfl) ?_
          repeat (go_big_quiet_step ((first | (go_at_call 40; with_reducible exact Calls.regrown_of (HD.out _)) | (go_at_call 41; with_reducible exact Calls.regrown_of (HK.out _)) | (go_at_call 42; with_reducible exact Calls.regrown_of (HI.out _)))))
          refine wpQuiet_nil ?_
          intro _ hw'
          obtain ⟨pq, hw''⟩ := hw'
          subst hw''
          have hbq := belowQ W1 pq
          clear e0 e1 e2 f0 f1 f2 f3 g0 g1 g2 g3 HD HK HI
          go_wp2
          go_ret
          exact eqB_no HBAD.out (hbw1.trans (hbq.mono hbw1.size))
        | true =>
          have hkn : (keyPos x.rows (rat x.rows k).key != (k : Int)) = false := by show (!(keyPos x.rows (rat x.rows k).key == (k : Int))) = false; rw [hkp]; rfl
          cases hin : inB (rat x.rows k).id 0 up with
          | false =>
            rw [hin] at HI
            have HBAD : Hid (bb = false) := by unfold Hid; rw [← HBB.out]; exact idxU_row hlt (by unfold rowOkB; rw [hd, hkp, hin]; rfl)
            go_wp2
            refine wp_region_quiet_below (by kernel_rfl) (by kernel_rfl) ?_
            repeat (go_big_quiet_step ((first | (go_at_call 40; with_reducible exact Calls.regrown_of (HD.out _)) | (go_at_call 41; with_reducible exact Calls.regrown_of (HK.out _)) | (go_at_call 42; with_reducible exact Calls.regrown_of (HI.out _)))))
            refine wpQuiet_nil ?_
            intro _ hw'
            obtain ⟨pq, hw''⟩ := hw'
            subst hw''
            have hbq := belowQ W1 pq
            clear e0 e1 e2 f0 f1 f2 f3 g0 g1 g2 g3 HD HK HI
            go_wp2
            go_ret
            exact eqB_no HBAD.out (hbw1.trans (hbq.mono hbw1.size))
          | true =>
            rw [hin] at HI
            by_cases hk0 : 0 < k
            · have hk0I : (0 : Int) < (k : Int) := by omega
              have hpv := HPV.out hk0
              have hk1 : (k : Int) - 1 = ((k - 1 : Nat) : Int) := by omega
              have hk1l : ((k - 1 : Nat) : Int) < (x.rows.length : Int) := by omega
              have HZ : Hid (decide (0 < k) = true) := decide_eq_true hk0
              by_cases hge : (rat x.rows k).id ≤ (rat x.rows (k - 1)).id
              · have HG : Hid (decide ((rat x.rows k).id ≤ (rat x.rows (k - 1)).id) = true) := decide_eq_true hge
                have HBAD : Hid (bb = false) := by unfold Hid; rw [← HBB.out]; exact idxU_row hlt (by unfold rowOkB; rw [hd, hkp, hin, HZ.out, HG.out]; rfl)
                go_wp2
                refine wp_region_quiet_below (by kernel_rfl) (by kernel_rfl) ?_
                repeat (go_big_quiet_step ((first | (go_at_call 40; with_reducible exact Calls.regrown_of (HD.out _)) | (go_at_call 41; with_reducible exact Calls.regrown_of (HK.out _)) | (go_at_call 42; with_reducible exact Calls.regrown_of (HI.out _)))))
                refine wpQuiet_nil ?_
                intro _ hw'
                obtain ⟨pq, hw''⟩ := hw'
                subst hw''
                have hbq := belowQ W1 pq
                clear e0 e1 e2 f0 f1 f2 f3 g0 g1 g2 g3 HD HK HI
                go_wp2
                go_ret
                exact eqB_no HBAD.out (hbw1.trans (hbq.mono hbw1.size))
              · have HG : Hid (decide ((rat x.rows k).id ≤ (rat x.rows (k - 1)).id) = false) := decide_eq_false hge
                have hge2 : decide ((rat x.rows k).id ≤ (rat x.rows (k - 1)).id) = false := decide_eq_false hge
                have HGOOD : Hid (idxTo x up (k + 1) = true) := by unfold Hid idxTo; rw [HTO.out]; unfold rowOkB; rw [hd, hkp, hin, HZ.out, HG.out]; rfl
                go_wp2
                refine wp_region_quiet_below (by kernel_rfl) (by kernel_rfl) ?_
                repeat (go_big_quiet_step ((first | (go_at_call 40; with_reducible exact Calls.regrown_of (HD.out _)) | (go_at_call 41; with_reducible exact Calls.regrown_of (HK.out _)) | (go_at_call 42; with_reducible exact Calls.regrown_of (HI.out _)))))
                refine wpQuiet_nil ?_
                intro _ hw'
                obtain ⟨pq, hw''⟩ := hw'
                subst hw''
                have hbq := belowQ W1 pq
                clear e0 e1 e2 f0 f1 f2 f3 g0 g1 g2 g3 HD HK HI
                have BX := (X1.below hbq X1.lt)
                go_wp2
                go_roundw
                case rel => exact ⟨k + 1, by omega, by go_num, HGOOD.out, BX, hbw1.trans (hbq.mono hbw1.size)⟩
                case measure => simp [intOf]; omega
            · have hk0I : decide ((0 : Int) < (k : Int)) = false := decide_eq_false (by omega)
              have HZ : Hid (decide (0 < k) = false) := decide_eq_false hk0
              have HGOOD : Hid (idxTo x up (k + 1) = true) := by unfold Hid idxTo; rw [HTO.out]; unfold rowOkB; rw [hd, hkp, hin, HZ.out]; rfl
              go_wp2
              refine wp_region_quiet_below (by kernel_rfl) (by kernel_rfl) ?_
              repeat (go_big_quiet_step ((first | (go_at_call 40; with_reducible exact Calls.regrown_of (HD.out _)) | (go_at_call 41; with_reducible exact Calls.regrown_of (HK.out _)) | (go_at_call 42; with_reducible exact Calls.regrown_of (HI.out _)))))
              refine wpQuiet_nil ?_
              intro _ hw'
              obtain ⟨pq, hw''⟩ := hw'
              subst hw''
              have hbq := belowQ W1 pq
              clear e0 e1 e2 f0 f1 f2 f3 g0 g1 g2 g3 HD HK HI
              have BX := (X1.below hbq X1.lt)
              go_wp2
              go_roundw
              case rel => exact ⟨k + 1, by omega, by go_num, HGOOD.out, BX, hbw1.trans (hbq.mono hbw1.size)⟩
              case measure => simp [intOf]; omega
    · have hkl : k = x.rows.length := by omega
      subst hkl
      have HU : Hid (bb = (fieldsB x.fields && decide (x.rows.length ≤ 8) && inB x.next 0 999999999 && decide (madeE x.fields x.rows = x.ents))) := by
        unfold Hid
        rw [← HBB.out]
        unfold idxU
        rw [HTO.out, Bool.true_and]
      have HXC : Hid (∀ wx, Below wr.heap.size wr wx → wx.cell? ⟨w.heap.size, 0, none⟩ = some (.slice pf x.fields.length cf) ∧ wx.cell? ⟨w.heap.size, 1, none⟩ = some (.slice pr x.rows.length cr) ∧ wx.cell? ⟨w.heap.size, 2, none⟩ = some (.slice pe x.ents.length ce) ∧ wx.cell? ⟨w.heap.size, 3, none⟩ = some (.int .i64 x.next)) := fun wx hb => by
        have X := hX.below hb hX.lt
        exact ⟨by have := X.cell 0; simpa using this, by have := X.cell 1; simpa using this, by have := X.cell 2; simpa using this, by have := X.cell 3; simpa using this⟩
      have HFO : Hid (∀ wx, Below wr.heap.size wr wx → Calls Tryz.prog 43 #[.slice pf x.fields.length cf] wx fun e w' => e = .returned (.bool (fieldsB x.fields)) ∧ Below wx.heap.size wx w') := fun wx hb =>
        fieldsS_any pf cf x.fields wx HS.out.fl HS.out.fs (HX.out wx (hbel.trans (hb.mono hbel.size))).f
      have hlx := hX.lt
      cases hfb : fieldsB x.fields with
      | false =>
        rw [hfb] at HFO HU
        have HE : Hid (bb = false) := HU.out
        have e0 := cellQ x0
        have HFQ : Hid (∀ p : Regrown, Calls Tryz.prog 43 #[.slice pf x.fields.length cf] (grow (redrawn wr p.d) p.os) fun e w' => e = .returned (.bool false) ∧ Below (grow (redrawn wr p.d) p.os).heap.size (grow (redrawn wr p.d) p.os) w') := fun p => HFO.out _ (belowQ wr p)
        go_wp2
        refine wp_region_quiet_below (by kernel_rfl) (by kernel_rfl) ?_
        repeat (go_big_quiet_step ((go_at_call 43; with_reducible exact Calls.regrown_of (HFQ.out _))))
        refine wpQuiet_nil ?_
        intro _ hw'
        obtain ⟨pq, hw''⟩ := hw'
        subst hw''
        have hbq := belowQ wr pq
        clear e0 x0 x1 x2 x3
        go_wp2
        go_ret
        exact eqB_no HE.out (hbel.trans (hbq.mono hbel.size))
      | true =>
        rw [hfb] at HFO HU
        by_cases h8 : x.rows.length ≤ 8
        · have h8d : decide ((x.rows.length : Int) ≤ 8) = true := decide_eq_true (by omega)
          have h8I : (x.rows.length : Int) ≤ 8 := by omega
          cases hin : inB x.next 0 999999999 with
          | false =>
            rw [hin] at HU
            have HE : Hid (bb = false) := by unfold Hid; rw [HU.out]; simp
            have e0 := cellQ x0
            have e1 := cellQ x1
            have e3 := cellQ x3
            have HFQ : Hid (∀ p : Regrown, Calls Tryz.prog 43 #[.slice pf x.fields.length cf] (grow (redrawn wr p.d) p.os) fun e w' => e = .returned (.bool true) ∧ Below (grow (redrawn wr p.d) p.os).heap.size (grow (redrawn wr p.d) p.os) w') := fun p => HFO.out _ (belowQ wr p)
            have HIQ : Hid (∀ p : Regrown, Calls Tryz.prog 42 #[.int .i64 x.next, .int .i64 0, .int .i64 999999999] (grow (redrawn wr p.d) p.os) fun e w' => e = .returned (.bool false) ∧ Below (grow (redrawn wr p.d) p.os).heap.size (grow (redrawn wr p.d) p.os) w') := fun p => by
              rw [← hin]
              exact (l1In_any _ _ _ _).mono fun e w' ⟨h1, h2⟩ => ⟨h1, by rw [h2]; exact Below.refl _ _⟩
            go_wp2
            refine wp_region_quiet_below (by kernel_rfl) (by kernel_rfl) ?_
            repeat (go_big_quiet_step ((first | (go_at_call 43; with_reducible exact Calls.regrown_of (HFQ.out _)) | (go_at_call 42; with_reducible exact Calls.regrown_of (HIQ.out _)))))
            refine wpQuiet_nil ?_
            intro _ hw'
            obtain ⟨pq, hw''⟩ := hw'
            subst hw''
            have hbq := belowQ wr pq
            clear e0 e1 e3 x0 x1 x2 x3
            go_wp2
            go_ret
            exact eqB_no HE.out (hbel.trans (hbq.mono hbel.size))
          | true =>
            rw [hin] at HU
            have HE : Hid (bb = decide (madeE x.fields x.rows = x.ents)) := by unfold Hid; rw [HU.out, decide_eq_true h8]; simp
            have HRL : Hid (RwsL x.rows) := rows_small HTO.out h8
            have HMD : Hid (∀ wx, Below wr.heap.size wr wx → Calls Tryz.prog 45 #[.slice pf x.fields.length cf, .slice pr x.rows.length cr] wx fun e w' => MadeA (madeE x.fields x.rows) wx w' e ∧ EntsN (madeE x.fields x.rows) 1000000) := fun wx hb =>
              l4Made_any pf cf x.fields pr cr x.rows wx HS.out.fl (HX.out wx (hbel.trans (hb.mono hbel.size))).f HRL.out (HX.out wx (hbel.trans (hb.mono hbel.size))).r
            have HSM : Hid (∀ wx G C xs fps, Below wr.heap.size wr wx → EntsN (madeE x.fields x.rows) 1000000 → GRow entEl wx wr.heap.size (.slice (some ⟨G, 0, none⟩) (madeE x.fields x.rows).length C) xs (madeE x.fields x.rows) fps → Calls Tryz.prog 44 #[.slice (some ⟨G, 0, none⟩) (madeE x.fields x.rows).length C, .slice pe x.ents.length ce] wx fun e w' => e = .returned (.bool bb) ∧ Below wx.heap.size wx w') := fun wx G C xs fps hb hn hg => by
              rw [HE.out]
              exact l4Same_any _ pe C ce _ x.ents wx (hn.sm (by omega)) HS.out.es (by obtain ⟨_, _, e, _, _, h⟩ := hg.ents; cases e; exact h) (HX.out wx (hbel.trans (hb.mono hbel.size))).e
            have HDR : Hid (Below wr.heap.size wr wr.drew) := below_drew (Below.refl _ _)
            have HFT : Hid (∀ wx, Below wr.heap.size wr wx → Calls Tryz.prog 42 #[.int .i64 x.next, .int .i64 0, .int .i64 999999999] wx fun e w' => e = .returned (.bool true) ∧ w' = wx) := fun wx _ => by
              rw [← hin]
              exact l1In_any _ _ _ _
            go_wp2
            go_region_with (first
              | (go_at_call 43; refine (HFO.out _ HDR.out).mono ?_; rintro e w2 ⟨rfl, hb2d⟩; have hb2 : Below wr.heap.size wr w2 := HDR.out.trans (hb2d.mono HDR.out.size); obtain ⟨y0, y1, y2, y3⟩ := HXC.out w2 hb2; clear hb2d)
              | (go_at_call 42; refine (HFT.out _ hb2).mono ?_; rintro e w2' ⟨rfl, rfl⟩)
              | (go_at_call 45; refine (HMD.out _ hb2).mono ?_; rintro e w3 ⟨⟨G, C, xs, fps, rfl, hg3d, hb3d⟩, hen⟩; have hb3 : Below wr.heap.size wr w3 := hb2.trans (hb3d.mono hb2.size); have HG3 : Hid (GRow entEl w3 wr.heap.size (.slice (some ⟨G, 0, none⟩) (madeE x.fields x.rows).length C) xs (madeE x.fields x.rows) fps) := hg3d.rebase (fun b hb => Nat.le_trans hb2.size (hg3d.lt b hb).1); have HEN3 : Hid (EntsN (madeE x.fields x.rows) 1000000) := hen; obtain ⟨z0, z1, z2, z3⟩ := HXC.out w3 hb3; clear hg3d hb3d hen)
              | (go_at_call 44; refine (HSM.out _ G C xs fps hb3 HEN3.out HG3.out).mono ?_; rintro e w4 ⟨rfl, hb4d⟩; have hb4 : Below wr.heap.size wr w4 := hb3.trans (hb4d.mono hb3.size); clear hb4d)
              | fail)
            all_goals
              have HB4 : Hid (Below w.heap.size w w4) := hbel.trans (hb4.mono hbel.size)
              go_wp2
              go_ret
              exact ⟨rfl, HB4.out⟩
        · have h8d : decide ((x.rows.length : Int) ≤ 8) = false := decide_eq_false (by omega)
          have HE : Hid (bb = false) := by unfold Hid; rw [HU.out, decide_eq_false h8]; simp
          have e0 := cellQ x0
          have e1 := cellQ x1
          have HFQ : Hid (∀ p : Regrown, Calls Tryz.prog 43 #[.slice pf x.fields.length cf] (grow (redrawn wr p.d) p.os) fun e w' => e = .returned (.bool true) ∧ Below (grow (redrawn wr p.d) p.os).heap.size (grow (redrawn wr p.d) p.os) w') := fun p => HFO.out _ (belowQ wr p)
          go_wp2
          refine wp_region_quiet_below (by kernel_rfl) (by kernel_rfl) ?_
          repeat (go_big_quiet_step ((go_at_call 43; with_reducible exact Calls.regrown_of (HFQ.out _))))
          refine wpQuiet_nil ?_
          intro _ hw'
          obtain ⟨pq, hw''⟩ := hw'
          subst hw''
          have hbq := belowQ wr pq
          clear e0 e1 x0 x1 x2 x3
          go_wp2
          go_ret
          exact eqB_no HE.out (hbel.trans (hbq.mono hbel.size))
end Go.Proofs.YtbifagdcnpnpjaaGreat
