/- spec.DocGet. -/
import Derived.Test.YtinniomeblkmeaaDoorDocGet
import Derived.Test.YtinniomeblkmeaaDoorL1Cut
namespace Go.Proofs.YtinniomeblkmeaaDoor
open Go.RowKit
set_option linter.unusedVariables false

/-- What the model's DocGet answers. -/
def GetAnsS (w w' : World) (s : ByteArray) (e : Ending) : Prop :=
  ∃ a c, e = .returned (.tuple #[.agg #[.string (getK s), .slice a (getC s).length c], .bool (getB s)]) ∧ CelRow w' a (getC s) ∧ Below w.heap.size w w'
theorem getAnsS_none {w w' : World} {s : ByteArray} (h : docOkP (dparts s) = false) (hb : Below w.heap.size w w') : GetAnsS w w' s (.returned (.tuple #[.agg #[.string ⟨#[]⟩, .slice none 0 0], .bool false])) := by
  obtain ⟨e1, e2, e3⟩ := get_no h
  exact ⟨none, 0, by rw [e1, e2, e3]; rfl, by rw [e3]; exact fun hp => by simp at hp, hb⟩
theorem getAnsS_some {w w' : World} {s : ByteArray} {key : ByteArray} {a : Option Addr} {n c : Nat} {cs : List Cel} (h : docOkP (dparts s) = true) (hk : pat (dparts s) 0 = key) (hc : cels (dparts s) ((dparts s).length - 1) = cs) (hn : cs.length = n)
    (ho : CelRow w' a cs) (hb : Below w.heap.size w w') : GetAnsS w w' s (.returned (.tuple #[.agg #[.string key, .slice a n c], .bool true])) := by
  obtain ⟨e1, e2, e3⟩ := get_yes h
  rw [hk] at e2
  rw [hc] at e3
  subst hn
  exact ⟨a, c, by rw [e1, e2, e3], by rw [e3]; exact ho, hb⟩

set_option maxRecDepth 100000 in
set_option maxHeartbeats 4000000 in
theorem getS_any (s : ByteArray) (w : World) (hs : s.size ≤ 1048576) :
    Calls Tryd.prog 27 #[.string s] w fun e w' => GetAnsS w w' s e := by
  obtain ⟨i0, hi, hz0, hz1, hz2⟩ := info_parts infoCel
  have hlen6 : (cuts 10 5 s).length ≤ 6 := cuts_len_le 10 5 s
  have hpos := cuts_pos 10 5 s
  obtain ⟨P1, P2⟩ := dparts5 s
  have HP1 : Hid (docOkP (cuts 10 5 s) = docOkP (dparts s)) := P1
  have HP2 : Hid (docOkP (dparts s) = true → cuts 10 5 s = dparts s) := P2
  have HGB : Hid (linesTo (cuts 10 5 s) ((cuts 10 5 s).length - 1) = true → docPutTo (pat (cuts 10 5 s) 0) (cels (cuts 10 5 s) ((cuts 10 5 s).length - 1)) ((cuts 10 5 s).length - 1) = s) := put_back 5 s
  have HSZ : Hid (∀ i, i < (cuts 10 5 s).length → (pat (cuts 10 5 s) i).size ≤ 1048576) := fun i hi => by have := pat_size 10 5 s i hi; omega
  clear P1 P2
  have hbQ : Below w.heap.size w (w.alloc (.cells #[.string ⟨#[]⟩, .slice none 0 0] 34)) := (Below.refl _ w).alloc (Nat.le_refl _) _
  have hQ0 : Blk (w.alloc (.cells #[.string ⟨#[]⟩, .slice none 0 0] 34)) w.heap.size #[.string ⟨#[]⟩, .slice none 0 0] 34 := Blk.new w _ _
  go_enter Tryd.func27, Tryd.ntmps27
  go_wp2_with fail
  refine (l1Cut_any s 10 10 rfl 5 _ hs (by omega)).mono ?_
  rintro e w1 ⟨v1, rfl, hvo, hb1⟩
  have hQ1 := hQ0.below hb1 (by simp)
  have hbw1 : Below w.heap.size w w1 := hbQ.trans (hb1.mono (by simp))
  obtain ⟨va, vc, rfl, hrow⟩ := owns_strRow hvo
  clear hvo hQ0 hb1
  generalize cuts 10 5 s = ps at *
  obtain ⟨g, rfl, hg, hc⟩ := hrow (by omega)
  have c0 : w1.cell? ⟨g, 0, none⟩ = some (.string (pat ps 0)) := hc 0 (by omega)
  have hz00 := HSZ.out 0 (by omega)
  obtain ⟨key, hkey⟩ : ∃ key, pat ps 0 = key := ⟨_, rfl⟩
  rw [hkey] at c0 hz00
  have HROW2 : Hid (∀ i, i < ps.length → w1.cell? ⟨g, i, none⟩ = some (.string (pat ps i))) := fun i hi => hc i hi
  have hQl := hQ1.lt
  have HDG : Hid (DG (w1.alloc (.cells #[.string key, .slice none 0 0] 34)) (w1.alloc (.cells #[.string key, .slice none 0 0] 34)) w1.heap.size key (.slice none 0 0) (cels ps 0)) := ⟨Blk.new w1 _ _, World.ownsRow_nil _ _ _ _, Below.refl _ _⟩
  have HQ3 : Hid (Blk (w1.alloc (.cells #[.string key, .slice none 0 0] 34)) w.heap.size #[.string ⟨#[]⟩, .slice none 0 0] 34) := hQ1.alloc _
  have hbw3 : Below w.heap.size w (w1.alloc (.cells #[.string key, .slice none 0 0] 34)) := hbw1.alloc hbw1.size _
  clear hc hrow hQ1
  obtain ⟨L, hlen⟩ : ∃ L, ps.length = L := ⟨_, rfl⟩
  rw [hlen]
  have hL6 : L ≤ 6 := by omega
  have hL1 : 1 ≤ L := by omega
  have HLEN : Hid (ps.length = L) := hlen
  clear hlen6 hpos hlen
  go_wp2
  go_loopw [6] (fun i wr => ∃ (k : Nat) (v : Value), k + 1 ≤ L ∧ i = .int .i64 ((k + 1 : Nat) : Int) ∧ linesTo ps k = true ∧ DG (w1.alloc (.cells #[.string key, .slice none 0 0] 34)) wr w1.heap.size key v (cels ps k)) (fun i _ => L - (intOf i).toNat)
  case atStart => exact ⟨0, _, hL1, rfl, rfl, HDG.out⟩
  case round =>
    obtain ⟨k, v, hk, rfl, hlt0, hdg⟩ := hrel
    have HLT : Hid (linesTo ps k = true) := hlt0
    have hdgbel := hdg.bel
    have hsz := hdgbel.size
    clear hlt0 HDG
    by_cases hlt : k + 1 < L
    · have hkl : (k : Int) + 1 < (L : Int) := by omega
      have hlen := HLEN.out
      have hb23 : Below w1.heap.size w1 wr := ((Below.refl _ w1).alloc (Nat.le_refl _) _).trans hdg.bel
      have c1 : wr.cell? ⟨g, k + 1, none⟩ = some (.string (pat ps (k + 1))) := (hb23.cell (p := ⟨g, k + 1, none⟩) hg).trans (HROW2.out (k + 1) (by omega))
      have hpz := HSZ.out (k + 1) (by omega)
      have HNL : Hid (two 61 (pat ps (k + 1)) = false → docOkP ps = false) := fun h => docOkP_no_line (by omega) h
      have HCS : Hid (cels ps (k + 1) = cels ps k ++ [celOf (pat ps (k + 1))]) := cels_succ ps k
      have HLS : Hid (two 61 (pat ps (k + 1)) = true → linesTo ps (k + 1) = true) := fun h => allTo_snoc _ _ HLT.out h
      have hQr := HQ3.out.below hdg.bel hQl
      have hbwr : Below w.heap.size w wr := hbw3.trans (hdgbel.mono (by omega))
      have hcsl := cels_len ps k
      clear hlen
      generalize pat ps (k + 1) = p at *
      have HC1 := l1Cut_any p 61 61 rfl 1 wr hpz (by omega)
      cases h2 : two 61 p with
      | false =>
        have HNO : Hid (docOkP (dparts s) = false) := by unfold Hid; rw [← HP1.out]; exact HNL.out h2
        rw [two_len1 h2] at HC1
        have HCH : Hid (Calls Tryd.prog 63 #[.string p, .int .u8 61, .int .i64 ((1 : Nat) : Int)] wr fun e w' => ∃ v, e = .returned v ∧ w'.ownsRow wr.heap.size 9 1 v 1 ((cuts 61 1 p).map Value.string) ∧ Below wr.heap.size wr w') := HC1
        clear HC1 hdg
        go_wp2_with fail
        refine HCH.out.mono ?_
        rintro e w4 ⟨vv, rfl, hvo, hb4⟩
        obtain ⟨xa, xc, rfl⟩ : ∃ xa xc, vv = .slice xa 1 xc := by
          rcases hvo.2 with ⟨_, h⟩ | ⟨g', c', cur, h, _⟩
          · omega
          · exact ⟨_, _, h⟩
        have hQ4 := hQr.below hb4 hQr.lt
        have q0 := hQ4.cell 0
        have q1 := hQ4.cell 1
        have f0 := hQ4.frozen 0
        have f1 := hQ4.frozen 1
        have q2 := ((hQ4.set 0 (.string ⟨#[]⟩)).set 1 (.slice none 0 0)).cell 0
        have q3 := ((hQ4.set 0 (.string ⟨#[]⟩)).set 1 (.slice none 0 0)).cell 1
        simp at q0 q1 q2 q3
        have Q2 : Hid (((w4.setCell ⟨w.heap.size, 0, none⟩ (.string ⟨#[]⟩)).setCell ⟨w.heap.size, 1, none⟩ (.slice none 0 0)).cell? ⟨w.heap.size, 0, none⟩ = some (.string ⟨#[]⟩)) := q2
        have Q3 : Hid (((w4.setCell ⟨w.heap.size, 0, none⟩ (.string ⟨#[]⟩)).setCell ⟨w.heap.size, 1, none⟩ (.slice none 0 0)).cell? ⟨w.heap.size, 1, none⟩ = some (.slice none 0 0)) := q3
        have hbw4 : Below w.heap.size w w4 := hbwr.trans (hb4.mono hbwr.size)
        clear q2 q3 hQ4 hQr hvo
        go_wp2
        exact bodyPost_ret (v := .tuple #[.agg #[.string ⟨#[]⟩, .slice none 0 0], .bool false]) (by simp [results, Tryd.results27, go_sem, Q2.out, Q3.out]) rfl (getAnsS_none HNO.out ((hbw4.setCell (Nat.le_refl _) _).setCell (Nat.le_refl _) _))
      | true =>
        have hsm := celOf_small hpz
        obtain ⟨nm, hnm⟩ : ∃ nm, pat (cuts 61 1 p) 0 = nm := ⟨_, rfl⟩
        obtain ⟨tx, htx⟩ : ∃ tx, pat (cuts 61 1 p) 1 = tx := ⟨_, rfl⟩
        have hce : celOf p = ⟨nm, tx⟩ := by unfold celOf; rw [hnm, htx]
        have hcut : cuts 61 1 p = [nm, tx] := by rw [(two_yes h2).1, hnm, htx]
        rw [hce] at hsm
        simp only at hsm
        obtain ⟨hnz, htz⟩ := hsm
        have HCS2 : Hid (cels ps (k + 1) = cels ps k ++ [⟨nm, tx⟩]) := by unfold Hid; rw [HCS.out, hce]
        rw [hcut] at HC1
        have HCH : Hid (Calls Tryd.prog 63 #[.string p, .int .u8 61, .int .i64 ((1 : Nat) : Int)] wr fun e w' => ∃ v, e = .returned v ∧ w'.ownsRow wr.heap.size 9 1 v 2 [.string nm, .string tx] ∧ Below wr.heap.size wr w') := HC1
        clear HCS hnm htx hce hQr hcut HC1
        generalize cels ps k = cs at *
        have hcsl2 : cs.length ≤ 1048576 := by omega
        clear hcsl
        obtain ⟨va2, vc2, rfl⟩ := hdg.slice
        have HG0 : Hid (DG (w1.alloc (.cells #[.string key, .slice none 0 0] 34)) wr w1.heap.size key (.slice va2 cs.length vc2) cs) := hdg
        clear hdg
        go_wp2_with fail
        refine HCH.out.mono ?_
        rintro e wz ⟨vv, rfl, hvo, hbz⟩
        obtain ⟨xg, xc, rfl, x0, x1, hxg⟩ : ∃ xg xc, vv = .slice (some ⟨xg, 0, none⟩) 2 xc ∧ wz.cell? ⟨xg, 0, none⟩ = some (.string nm) ∧ wz.cell? ⟨xg, 1, none⟩ = some (.string tx) ∧ xg < wz.heap.size := by
          rcases hvo.2 with ⟨_, h⟩ | ⟨g', c', cur, h, _, hgb, _⟩
          · omega
          · subst h
            exact ⟨g', c', rfl, hvo.cellAt 0 (by omega), hvo.cellAt 1 (by omega), lt_of_block hgb⟩
        have HG : Hid (DG (w1.alloc (.cells #[.string key, .slice none 0 0] 34)) wz w1.heap.size key (.slice va2 cs.length vc2) cs) := HG0.out.step hbz
        have k1 := HG.out.d.cell 1
        have hDl := HG.out.d.lt
        simp at k1
        clear HG0 hbz hvo
        have HOD : ∀ o, (wz.drew.alloc o).ownsRow (w1.heap.size + 1) 92 2 (.slice va2 cs.length vc2) cs.length (celCells cs) := fun o => And.intro (HG.out.own.alloc o).1 (HG.out.own.alloc o).2
        have HODH : Hid (∀ o, (wz.drew.alloc o).ownsRow (w1.heap.size + 1) 92 2 (.slice va2 cs.length vc2) cs.length (celCells cs)) := HOD
        clear HOD
        go_wp2_with fail
        go_region_law (refine step_append_lies _ (by rfl) _ _ 32 (by rfl) (w1.heap.size + 1) 92 i0 (.agg #[.string ⟨#[]⟩, .string ⟨#[]⟩]) 2 32 Tryd.underlying32 hi hz0 hz1 hz2 rfl (by decide) (.slice va2 cs.length vc2) cs.length (celCells cs) (by rfl) (HODH.out _) ⟨wz.heap.size, 0, none⟩ 1 1 [.string nm, .string tx] (by rfl) rfl (cells_new _ _ _) (two_one _ _) (by omega) (by unfold maxLen; omega) (by omega) (by simp; omega) (wz.heap.size + 1) (by simp) ?_; intro g6 c6 w6 hown' hgrow hat hlt6; have hd6 : Blk w6 w1.heap.size #[.string key, .slice va2 cs.length vc2] 34 := (HG.out.alloc (.cells #[.string nm, .string tx] 92)).d.grown ⟨hgrow.os, hgrow.tape, hgrow.output, hgrow.size, hgrow.block⟩ (HG.out.alloc (.cells #[] 92)).ne; have k6 := hd6.cell 1; have y6 := hd6.frozen 1; simp at k6)
        all_goals
          have HN : Hid (DG (w1.alloc (.cells #[.string key, .slice none 0 0] 34)) (w6.setCell ⟨w1.heap.size, 1, none⟩ (.slice (some ⟨g6, 0, none⟩) (cs.length + 1) c6)) w1.heap.size key (.slice (some ⟨g6, 0, none⟩) (cs.length + 1) c6) (cs ++ [⟨nm, tx⟩])) 
            := (HG.out.alloc (.cells #[.string nm, .string tx] 92)).snoc hown' ⟨hgrow.os, hgrow.tape, hgrow.output, hgrow.size, hgrow.block⟩
          clear hown' hgrow hd6 HG
          go_wp2
          go_roundw
          case rel => exact ⟨k + 1, _, by omega, by go_num, HLS.out h2, by rw [HCS2.out]; exact HN.out⟩
          case measure => simp [intOf]; omega
    · have hlen := HLEN.out
      clear HLEN
      have hkl : k + 1 = L := by omega
      subst hkl
      have HDE : Hid (DG (w1.alloc (.cells #[.string key, .slice none 0 0] 34)) wr w1.heap.size key v (cels ps k)) := hdg
      obtain ⟨va2, vc2, rfl, hvc, _, _, hcr⟩ := owns_celRow hdg.own (celTo_cells (cels ps k))
      have d0 := hdg.d.cell 0
      have d1 := hdg.d.cell 1
      have hQr := HQ3.out.below hdg.bel hQl
      simp at d0 d1
      have hsmall : CelsSmall (cels ps k) := fun i hi => by rw [cels_len] at hi; rw [cels_at _ _ _ hi]; exact celOf_small (HSZ.out (i + 1) (by omega))
      have HFM := l2Form_any key va2 vc2 (cels ps k) wr hz00 (by rw [cels_len]; omega) hsmall hcr
      rw [cels_len] at HFM
      rw [cels_len] at d1
      have HFMH : Hid (Calls Tryd.prog 72 #[.agg #[.string key, .slice va2 k vc2]] wr fun e w' => e = .returned (.bool (formB key (cels ps k))) ∧ Below wr.heap.size wr w') := HFM
      have HPO : Hid (docOkP ps = formB key (cels ps k)) := by
        have := docOkP_form (ps := ps) (by rw [hlen]; exact HLT.out)
        rw [hlen, hkey] at this
        exact this
      have HCR : Hid (CelRow wr va2 (cels ps k)) := hcr
      clear HFM hcr hdg hsmall
      go_wp2_with fail
      refine HFMH.out.mono ?_
      rintro e w4 ⟨rfl, hb4⟩
      have hbD4 := hdgbel.trans (hb4.mono (Nat.le_of_lt HDE.out.d.lt))
      have HDE4 : Hid (DG (w1.alloc (.cells #[.string key, .slice none 0 0] 34)) w4 w1.heap.size key (.slice va2 (cels ps k).length vc2) (cels ps k)) := HDE.out.step hb4
      have hQ4 := hQr.below hb4 hQr.lt
      have q0 := hQ4.cell 0
      have q1 := hQ4.cell 1
      have f0 := hQ4.frozen 0
      have f1 := hQ4.frozen 1
      have d40 := HDE4.out.d.cell 0
      have d41 := HDE4.out.d.cell 1
      simp at q0 q1 d40 d41
      rw [cels_len] at d41
      have hbw4 : Below w.heap.size w w4 := hbw3.trans (hbD4.mono (by omega))
      have HCR4 : Hid (CelRow w4 va2 (cels ps k)) := HCR.out.below hb4
      clear HCR
      cases hfm : formB key (cels ps k) with
      | false =>
        have HNO : Hid (docOkP (dparts s) = false) := by unfold Hid; rw [← HP1.out, HPO.out, hfm]
        have q2 := ((hQ4.set 0 (.string ⟨#[]⟩)).set 1 (.slice none 0 0)).cell 0
        have q3 := ((hQ4.set 0 (.string ⟨#[]⟩)).set 1 (.slice none 0 0)).cell 1
        simp at q2 q3
        have Q2 : Hid (((w4.setCell ⟨w.heap.size, 0, none⟩ (.string ⟨#[]⟩)).setCell ⟨w.heap.size, 1, none⟩ (.slice none 0 0)).cell? ⟨w.heap.size, 0, none⟩ = some (.string ⟨#[]⟩)) := q2
        have Q3 : Hid (((w4.setCell ⟨w.heap.size, 0, none⟩ (.string ⟨#[]⟩)).setCell ⟨w.heap.size, 1, none⟩ (.slice none 0 0)).cell? ⟨w.heap.size, 1, none⟩ = some (.slice none 0 0)) := q3
        clear q2 q3 hQ4 hQr
        go_wp2
        exact bodyPost_ret (v := .tuple #[.agg #[.string ⟨#[]⟩, .slice none 0 0], .bool false]) (by simp [results, Tryd.results27, go_sem, Q2.out, Q3.out]) rfl (getAnsS_none HNO.out ((hbw4.setCell (Nat.le_refl _) _).setCell (Nat.le_refl _) _))
      | true =>
        have HYES : Hid (docOkP (dparts s) = true) := by unfold Hid; rw [← HP1.out, HPO.out, hfm]
        have HPT := l2DocPut_any key va2 vc2 (cels ps k) w4 hfm HCR4.out
        have HBK : Hid (docPutTo key (cels ps k) k = s) := by
          have := HGB.out (by rw [hlen]; exact HLT.out)
          rw [hlen, hkey] at this
          exact this
        rw [cels_len, HBK.out] at HPT
        have HPTH : Hid (Calls Tryd.prog 73 #[.agg #[.string key, .slice va2 k vc2]] w4 fun e w' => e = .returned (.string s) ∧ Below w4.heap.size w4 w') := HPT
        clear HPT
        go_wp2_with fail
        refine HPTH.out.mono ?_
        rintro e w5 ⟨rfl, hb5⟩
        have HDE5 : Hid (DG (w1.alloc (.cells #[.string key, .slice none 0 0] 34)) w5 w1.heap.size key (.slice va2 (cels ps k).length vc2) (cels ps k)) := HDE4.out.step hb5
        have hQ5 := hQ4.below hb5 hQ4.lt
        have z0 := hQ5.cell 0
        have z1 := hQ5.cell 1
        have y0 := hQ5.frozen 0
        have y1 := hQ5.frozen 1
        have d50 := HDE5.out.d.cell 0
        have d51 := HDE5.out.d.cell 1
        simp at z0 z1 d50 d51
        rw [cels_len] at d51
        have hbw5 : Below w.heap.size w w5 := below_trans hbw4 hb5
        have q2 := ((hQ5.set 0 (.string key)).set 1 (.slice va2 k vc2)).cell 0
        have q3 := ((hQ5.set 0 (.string key)).set 1 (.slice va2 k vc2)).cell 1
        simp at q2 q3
        have Q2 : Hid (((w5.setCell ⟨w.heap.size, 0, none⟩ (.string key)).setCell ⟨w.heap.size, 1, none⟩ (.slice va2 k vc2)).cell? ⟨w.heap.size, 0, none⟩ = some (.string key)) := q2
        have Q3 : Hid (((w5.setCell ⟨w.heap.size, 0, none⟩ (.string key)).setCell ⟨w.heap.size, 1, none⟩ (.slice va2 k vc2)).cell? ⟨w.heap.size, 1, none⟩ = some (.slice va2 k vc2)) := q3
        have HROWE : Hid (CelRow ((w5.setCell ⟨w.heap.size, 0, none⟩ (.string key)).setCell ⟨w.heap.size, 1, none⟩ (.slice va2 k vc2)) va2 (cels ps k)) := by
          have hne : ∀ x, va2 = some x → x.block ≠ w.heap.size := fun x hx e => by
            have hob : (Value.slice va2 (cels ps k).length vc2).ownBlock = some x.block := by rw [hx]; rfl
            have := (HDE5.out.own.lt x.block hob).1
            omega
          exact ((HCR4.out.below hb5).set (p := ⟨w.heap.size, 0, none⟩) hne _).set (p := ⟨w.heap.size, 1, none⟩) hne _
        clear q2 q3 hQ4 hQr hQ5
        go_wp2
        exact bodyPost_ret (v := .tuple #[.agg #[.string key, .slice va2 k vc2], .bool true]) (by simp [results, Tryd.results27, go_sem, Q2.out, Q3.out]) rfl (getAnsS_some HYES.out (by rw [← HP2.out HYES.out]; exact hkey) (by rw [← HP2.out HYES.out, hlen]; rfl) (cels_len _ _) HROWE.out ((hbw5.setCell (Nat.le_refl _) _).setCell (Nat.le_refl _) _))
end Go.Proofs.YtinniomeblkmeaaDoor
