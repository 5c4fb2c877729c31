/- impl.DocGet. -/
import Derived.Test.YtinniomeblkmeaaDoorDocGetPlain
import Derived.Test.YtinniomeblkmeaaDoorCutAny
import Derived.Test.YtinniomeblkmeaaDoorCelRows
import Derived.Test.YtinniomeblkmeaaDoorClone
import Derived.Deep.RegionLaw
import Derived.Deep.AppendLies
import Derived.Deep.RegionHeld3
namespace Go.Proofs.YtinniomeblkmeaaDoor
open Go.RowKit
set_option linter.unusedVariables false

/-- A document that DocGet builds: its variable D and its cells. -/
structure DG (w3 wr : World) (D : Nat) (key : ByteArray) (v : Value) (cs : List Cel) : Prop where
  d : Blk wr D #[.string key, v] 34
  own : wr.ownsRow (D + 1) 92 2 v cs.length (celCells cs)
  bel : Below D w3 wr
theorem DG.step {w3 wr w2 : World} {D : Nat} {key : ByteArray} {v : Value} {cs : List Cel} (h : DG w3 wr D key v cs) (hb : Below wr.heap.size wr w2) : DG w3 w2 D key v cs :=
  ⟨h.d.below hb h.d.lt, h.own.kept (grown_none hb) (Classical.em _), h.bel.trans (hb.mono (Nat.le_of_lt h.d.lt))⟩
theorem DG.alloc {w3 wr : World} {D : Nat} {key : ByteArray} {v : Value} {cs : List Cel} (h : DG w3 wr D key v cs) (o : Obj) : DG w3 (wr.alloc o) D key v cs := h.step ((Below.refl _ _).alloc (Nat.le_refl _) _)
theorem DG.ne {w3 wr : World} {D : Nat} {key : ByteArray} {v : Value} {cs : List Cel} (h : DG w3 wr D key v cs) : some D ≠ v.ownBlock := fun e => by have := (h.own.lt D e.symm).1; omega
theorem DG.snoc {w3 wr w2 : World} {D : Nat} {key nm tx : ByteArray} {v v' : Value} {cs : List Cel} (h : DG w3 wr D key v cs) (ho : w2.ownsRow (D + 1) 92 2 v' (cs.length + 1) (celCells cs ++ [.string nm, .string tx])) (hg : wr.grownBy w2 v.ownBlock) :
    DG w3 (w2.setCell ⟨D, 1, none⟩ v') D key v' (cs ++ [⟨nm, tx⟩]) := by
  refine ⟨(h.d.grown hg h.ne).set 1 v', ?_, ?_⟩
  · have h1 : w2.ownsRow (D + 1) 92 2 v' (cs ++ [(⟨nm, tx⟩ : Cel)]).length (celCells (cs ++ [(⟨nm, tx⟩ : Cel)])) := by rw [celCells_snoc, List.length_append]; exact ho
    refine h1.kept (grown_cell w2 D 1 v') ?_
    cases hv : v'.ownBlock with
    | none => exact .inl rfl
    | some j => exact .inr (fun e => by have := (h1.lt j hv).1; cases e; omega)
  · have hz := h.bel.size
    have hl := h.d.lt
    exact (h.bel.grown hg (by omega) (fun j hj => by have := (h.own.lt j hj).1; omega)).setCell (Nat.le_refl _) _
theorem DG.slice {w3 wr : World} {D : Nat} {key : ByteArray} {v : Value} {cs : List Cel} (h : DG w3 wr D key v cs) : ∃ a c, v = .slice a cs.length c := by
  obtain ⟨a, c, e, _⟩ := owns_celRow h.own (celTo_cells cs)
  exact ⟨a, c, e⟩
/-- What DocGet answers. -/
def GetAns (w w' : World) (s : ByteArray) (e : Ending) : Prop :=
  ∃ a c, e = .returned (.tuple #[.agg #[.string (getK s), .slice a (getC s).length c], .bool (getB s)]) ∧ w'.ownsRow w.heap.size 92 2 (.slice a (getC s).length c) (getC s).length (celCells (getC s)) ∧ Below w.heap.size w w'
theorem getAns_none {w w' : World} {s : ByteArray} (h : docOkP (dparts s) = false) (hb : Below w.heap.size w w') : GetAns w w' s (.returned (.tuple #[.agg #[.string ⟨#[]⟩, .slice none 0 0], .bool false])) := by
  obtain ⟨e1, e2, e3⟩ := get_no h
  exact ⟨none, 0, by rw [e1, e2, e3]; rfl, by rw [e3]; exact World.ownsRow_nil _ _ _ _, hb⟩
theorem getAns_some {w w' : World} {s : ByteArray} {key : ByteArray} {a : Option Addr} {n c : Nat} {cs : List Cel} (h : docOkP (dparts s) = true) (hk : pat (dparts s) 0 = key) (hc : cels (dparts s) ((dparts s).length - 1) = cs) (hn : cs.length = n)
    (ho : w'.ownsRow w.heap.size 92 2 (.slice a n c) cs.length (celCells cs)) (hb : Below w.heap.size w w') : GetAns w w' s (.returned (.tuple #[.agg #[.string key, .slice a n c], .bool true])) := by
  obtain ⟨e1, e2, e3⟩ := get_yes h
  rw [hk] at e2
  rw [hc] at e3
  subst hn
  exact ⟨a, c, by rw [e1, e2, e3], by rw [e3]; exact ho, hb⟩

set_option maxRecDepth 100000 in
set_option maxHeartbeats 4000000 in
theorem getI_any (s : ByteArray) (w : World) (hs : s.size ≤ 1048576) (hm : MaxL w) :
    Calls Tryd.prog 23 #[.string s] w fun e w' => GetAns w w' s e := by
  obtain ⟨i0, hi, hz0, hz1, hz2⟩ := info_parts infoCel
  have hmn := manyB_le 10 s
  have hlen : (dparts s).length = manyB 10 s + 1 := cuts_full_len 10 s
  have hbQ : Below w.heap.size w (w.alloc (.cells #[.string ⟨#[]⟩, .slice none 0 0] 34)) := (Below.refl _ w).alloc (Nat.le_refl _) _
  have hQ0 : Blk (w.alloc (.cells #[.string ⟨#[]⟩, .slice none 0 0] 34)) w.heap.size #[.string ⟨#[]⟩, .slice none 0 0] 34 := Blk.new w _ _
  have HSP := split_any s 10 (w.alloc (.cells #[.string ⟨#[]⟩, .slice none 0 0] 34)) hs (hm.below hbQ)
  go_enter Tryd.func23, Tryd.ntmps23
  go_wp2_with fail
  refine HSP.mono ?_
  rintro e w1 ⟨g, rfl, hrow, hb1⟩
  have hQ1 := hQ0.below hb1 (by simp)
  have hbw1 : Below w.heap.size w w1 := hbQ.trans (hb1.mono (by simp))
  have HROW : Hid (StrRow w1 (some ⟨g, 0, none⟩) (dparts s)) := hrow
  have HM1 : Hid (MaxL w1) := hm.below hbw1
  clear hrow hm HSP hQ0 hb1
  generalize hps : dparts s = ps at *
  have HPS : Hid (dparts s = ps) := hps
  have HSZ : Hid (∀ i, i < ps.length → (pat ps i).size ≤ 1048576) := fun i hi => by have := pat_size 10 (manyB 10 s) s i (by rw [← hps] at hi; exact hi); rw [← hps]; unfold dparts; omega
  clear hps
  generalize hn : manyB 10 s = n at *
  obtain ⟨g', eg, hg, hc⟩ := HROW.out (by omega)
  cases eg
  have c0 : w1.cell? ⟨g, 0, none⟩ = some (.string (pat ps 0)) := hc 0 (by omega)
  have hz00 := HSZ.out 0 (by omega)
  obtain ⟨key, hkey⟩ : ∃ key, pat ps 0 = key := ⟨_, rfl⟩
  rw [hkey] at c0 hz00
  clear hc
  go_wp2_with fail
  refine (clone_any key _ (by omega)).mono ?_
  rintro e w2 ⟨rfl, hb2⟩
  have hQ2 := hQ1.below hb2 hQ1.lt
  have hbw2 : Below w.heap.size w w2 := below_trans hbw1 hb2
  have hg2 : g < w2.heap.size := by have := hb2.size; omega
  have hQl := hQ2.lt
  have HROW2 : Hid (∀ i, i < n → w2.cell? ⟨g, 1 + i, none⟩ = some (.string (pat ps (i + 1)))) := fun i hi => by
    obtain ⟨g', eg, hg', hc'⟩ := HROW.out.below hb2 (by omega)
    cases eg
    rw [Nat.add_comm 1 i]
    exact hc' (i + 1) (by omega)
  have HM2 : Hid (MaxL w2) := HM1.out.below hb2
  have hDG : DG (w2.alloc (.cells #[.string key, .slice none 0 0] 34)) (w2.alloc (.cells #[.string key, .slice none 0 0] 34)) w2.heap.size key (.slice none 0 0) (cels ps 0) := ⟨Blk.new w2 _ _, World.ownsRow_nil _ _ _ _, Below.refl _ _⟩
  have HDG : Hid (DG (w2.alloc (.cells #[.string key, .slice none 0 0] 34)) (w2.alloc (.cells #[.string key, .slice none 0 0] 34)) w2.heap.size key (.slice none 0 0) (cels ps 0)) := hDG
  have HQ3 : Hid (Blk (w2.alloc (.cells #[.string key, .slice none 0 0] 34)) w.heap.size #[.string ⟨#[]⟩, .slice none 0 0] 34) := hQ2.alloc _
  clear hDG c0 HROW HM1 hQ1 hQ2
  have hbw3 : Below w.heap.size w (w2.alloc (.cells #[.string key, .slice none 0 0] 34)) := hbw2.alloc hbw2.size _
  by_cases hn0 : n = 0
  · subst hn0
    go_wp2
    go_loopw [21] (fun i wr => ∃ (k : Nat) (v : Value), k ≤ 0 ∧ i = .int .i64 k ∧ linesTo ps k = true ∧ DG (w2.alloc (.cells #[.string key, .slice none 0 0] 34)) wr w2.heap.size key v (cels ps k)) (fun i _ => 0 - (intOf i).toNat)
    case atStart => exact ⟨0, _, Nat.zero_le _, rfl, rfl, HDG.out⟩
    case round =>
      obtain ⟨k, v, hk, rfl, hlt0, hdg⟩ := hrel
      have HLT : Hid (linesTo ps k = true) := hlt0
      have hdgbel := hdg.bel
      have hsz := hdgbel.size
      clear hlt0 HDG
      have hkl : k = 0 := by omega
      subst hkl
      have HDE : Hid (DG (w2.alloc (.cells #[.string key, .slice none 0 0] 34)) wr w2.heap.size key v (cels ps 0)) := hdg
      obtain ⟨va, vc, rfl, hvc, _, _, hcr⟩ := owns_celRow hdg.own (celTo_cells (cels ps 0))
      have d0 := hdg.d.cell 0
      have d1 := hdg.d.cell 1
      have hQr := HQ3.out.below hdg.bel hQl
      simp at d0 d1
      have HFM := form_any key va vc (cels ps 0) wr hz00 (by rw [cels_len]; omega) (fun i hi => by rw [cels_len] at hi; rw [cels_at _ _ _ hi]; exact celOf_small (HSZ.out (i + 1) (by omega))) hcr
      rw [cels_len] at HFM
      rw [cels_len] at d1
      have HFMH : Hid (Calls Tryd.prog 67 #[.agg #[.string key, .slice va 0 vc]] wr fun e w' => e = .returned (.bool (formB key (cels ps 0))) ∧ Below wr.heap.size wr w') := HFM
      have HPO : Hid (docOkP ps = formB key (cels ps 0)) := by
        have := docOkP_form (ps := ps) (by rw [hlen]; exact HLT.out)
        rw [hlen, hkey] at this
        exact this
      clear HFM hcr hdg
      go_wp2_with fail
      refine HFMH.out.mono ?_
      rintro e w4 ⟨rfl, hb4⟩
      have hbD4 := hdgbel.trans (hb4.mono (Nat.le_of_lt HDE.out.d.lt))
      have HDE4 : Hid (DG (w2.alloc (.cells #[.string key, .slice none 0 0] 34)) w4 w2.heap.size key (.slice va (cels ps 0).length vc) (cels ps 0)) := HDE.out.step hb4
      have hQ4 := hQr.below hb4 hQr.lt
      have q0 := hQ4.cell 0
      have q1 := hQ4.cell 1
      have f0 := hQ4.frozen 0
      have f1 := hQ4.frozen 1
      have d40 := HDE4.out.d.cell 0
      have d41 := HDE4.out.d.cell 1
      simp at q0 q1 d40 d41
      rw [cels_len] at d41
      have hbw4 : Below w.heap.size w w4 := hbw3.trans (hbD4.mono (by omega))
      cases hfm : formB key (cels ps 0) with
      | false =>
        have HNO : Hid (docOkP (dparts s) = false) := by unfold Hid; rw [HPS.out, HPO.out, hfm]
        have q2 := ((hQ4.set 0 (.string ⟨#[]⟩)).set 1 (.slice none 0 0)).cell 0
        have q3 := ((hQ4.set 0 (.string ⟨#[]⟩)).set 1 (.slice none 0 0)).cell 1
        simp at q2 q3
        have Q2 : Hid (((w4.setCell ⟨w.heap.size, 0, none⟩ (.string ⟨#[]⟩)).setCell ⟨w.heap.size, 1, none⟩ (.slice none 0 0)).cell? ⟨w.heap.size, 0, none⟩ = some (.string ⟨#[]⟩)) := q2
        have Q3 : Hid (((w4.setCell ⟨w.heap.size, 0, none⟩ (.string ⟨#[]⟩)).setCell ⟨w.heap.size, 1, none⟩ (.slice none 0 0)).cell? ⟨w.heap.size, 1, none⟩ = some (.slice none 0 0)) := q3
        clear q2 q3 hQ4 hQr
        go_wp2
        exact bodyPost_ret (v := .tuple #[.agg #[.string ⟨#[]⟩, .slice none 0 0], .bool false]) (by simp [results, Tryd.results23, go_sem, Q2.out, Q3.out]) rfl (getAns_none HNO.out ((hbw4.setCell (Nat.le_refl _) _).setCell (Nat.le_refl _) _))
      | true =>
        have HYES : Hid (docOkP (dparts s) = true) := by unfold Hid; rw [HPS.out, HPO.out, hfm]
        have q2 := ((hQ4.set 0 (.string key)).set 1 (.slice va 0 vc)).cell 0
        have q3 := ((hQ4.set 0 (.string key)).set 1 (.slice va 0 vc)).cell 1
        simp at q2 q3
        have Q2 : Hid (((w4.setCell ⟨w.heap.size, 0, none⟩ (.string key)).setCell ⟨w.heap.size, 1, none⟩ (.slice va 0 vc)).cell? ⟨w.heap.size, 0, none⟩ = some (.string key)) := q2
        have Q3 : Hid (((w4.setCell ⟨w.heap.size, 0, none⟩ (.string key)).setCell ⟨w.heap.size, 1, none⟩ (.slice va 0 vc)).cell? ⟨w.heap.size, 1, none⟩ = some (.slice va 0 vc)) := q3
        have HOW : Hid (((w4.setCell ⟨w.heap.size, 0, none⟩ (.string key)).setCell ⟨w.heap.size, 1, none⟩ (.slice va 0 vc)).ownsRow w.heap.size 92 2 (.slice va 0 vc) (cels ps 0).length (celCells (cels ps 0))) := by
          have h0 := ownsRow_mono (b' := w.heap.size) HDE4.out.own (by omega)
          have hne : ∀ j, (Value.slice va (cels ps 0).length vc).ownBlock = some j → some j ≠ some w.heap.size := fun j hj e => by
            have := (HDE4.out.own.lt j hj).1
            cases e
            omega
          have hk : (Value.slice va (cels ps 0).length vc).ownBlock = none ∨ (Value.slice va (cels ps 0).length vc).ownBlock ≠ some w.heap.size := by
            cases hv : (Value.slice va (cels ps 0).length vc).ownBlock with
            | none => exact .inl rfl
            | some j => exact .inr (hne j hv)
          have h1 := (h0.kept (grown_cell w4 w.heap.size 0 (.string key)) hk).kept (grown_cell _ w.heap.size 1 (.slice va 0 vc)) hk
          rw [cels_len] at h1 ⊢
          exact h1
        clear q2 q3 hQ4 hQr
        go_wp2
        exact bodyPost_ret (v := .tuple #[.agg #[.string key, .slice va 0 vc], .bool true]) (by simp [results, Tryd.results23, go_sem, Q2.out, Q3.out]) rfl (getAns_some HYES.out (by rw [HPS.out]; exact hkey) (by rw [HPS.out, hlen]; try rfl) (cels_len _ _) HOW.out ((hbw4.setCell (Nat.le_refl _) _).setCell (Nat.le_refl _) _))
  · have hn1 : 0 < n := by omega
    go_wp2
    go_loopw [21] (fun i wr => ∃ (k : Nat) (v : Value), k ≤ n ∧ i = .int .i64 k ∧ linesTo ps k = true ∧ DG (w2.alloc (.cells #[.string key, .slice none 0 0] 34)) wr w2.heap.size key v (cels ps k)) (fun i _ => n - (intOf i).toNat)
    case atStart => exact ⟨0, _, Nat.zero_le _, rfl, rfl, HDG.out⟩
    case round =>
      obtain ⟨k, v, hk, rfl, hlt0, hdg⟩ := hrel
      have HLT : Hid (linesTo ps k = true) := hlt0
      have hdgbel := hdg.bel
      have hsz := hdgbel.size
      clear hlt0 HDG
      by_cases hlt : k < n
      · have hkl : (k : Int) < (n : Int) := by omega
        have hb23 : Below w2.heap.size w2 wr := ((Below.refl _ w2).alloc (Nat.le_refl _) _).trans hdg.bel
        have c0 : wr.cell? ⟨g, 1 + k, none⟩ = some (.string (pat ps (k + 1))) := (hb23.cell (p := ⟨g, 1 + k, none⟩) hg2).trans (HROW2.out k hlt)
        have hmx := HM2.out.below hb23
        have hpz := HSZ.out (k + 1) (by omega)
        have HNL : Hid (two 61 (pat ps (k + 1)) = false → docOkP ps = false) := fun h => docOkP_no_line (by omega) h
        have HCS : Hid (cels ps (k + 1) = cels ps k ++ [celOf (pat ps (k + 1))]) := cels_succ ps k
        have HLS : Hid (two 61 (pat ps (k + 1)) = true → linesTo ps (k + 1) = true) := fun h => allTo_snoc _ _ HLT.out h
        have hQr := HQ3.out.below hdg.bel hQl
        have hbwr : Below w.heap.size w wr := hbw3.trans (hdgbel.mono (by omega))
        have hcsl := cels_len ps k
        generalize pat ps (k + 1) = p at *
        cases h2 : two 61 p with
        | false =>
          have HNO : Hid (docOkP (dparts s) = false) := by unfold Hid; rw [HPS.out]; exact HNL.out h2
          have HCN := cut_no p 61 wr hpz hmx h2
          clear hmx hdg
          go_wp2_with fail
          refine HCN.mono ?_
          rintro e w4 ⟨rfl, hb4⟩
          have hQ4 := hQr.below hb4 hQr.lt
          have q0 := hQ4.cell 0
          have q1 := hQ4.cell 1
          have f0 := hQ4.frozen 0
          have f1 := hQ4.frozen 1
          have q2 := ((hQ4.set 0 (.string ⟨#[]⟩)).set 1 (.slice none 0 0)).cell 0
          have q3 := ((hQ4.set 0 (.string ⟨#[]⟩)).set 1 (.slice none 0 0)).cell 1
          simp at q0 q1 q2 q3
          have Q2 : Hid (((w4.setCell ⟨w.heap.size, 0, none⟩ (.string ⟨#[]⟩)).setCell ⟨w.heap.size, 1, none⟩ (.slice none 0 0)).cell? ⟨w.heap.size, 0, none⟩ = some (.string ⟨#[]⟩)) := q2
          have Q3 : Hid (((w4.setCell ⟨w.heap.size, 0, none⟩ (.string ⟨#[]⟩)).setCell ⟨w.heap.size, 1, none⟩ (.slice none 0 0)).cell? ⟨w.heap.size, 1, none⟩ = some (.slice none 0 0)) := q3
          have hbw4 : Below w.heap.size w w4 := hbwr.trans (hb4.mono hbwr.size)
          clear q2 q3 hQ4 hQr
          go_wp2
          exact bodyPost_ret (v := .tuple #[.agg #[.string ⟨#[]⟩, .slice none 0 0], .bool false]) (by simp [results, Tryd.results23, go_sem, Q2.out, Q3.out]) rfl (getAns_none HNO.out ((hbw4.setCell (Nat.le_refl _) _).setCell (Nat.le_refl _) _))
        | true =>
          have HCY := cut_yes p 61 wr hpz hmx h2
          have hsm := celOf_small hpz
          obtain ⟨nm, hnm⟩ : ∃ nm, pat (cuts 61 1 p) 0 = nm := ⟨_, rfl⟩
          obtain ⟨tx, htx⟩ : ∃ tx, pat (cuts 61 1 p) 1 = tx := ⟨_, rfl⟩
          have hce : celOf p = ⟨nm, tx⟩ := by unfold celOf; rw [hnm, htx]
          rw [hnm, htx] at HCY
          rw [hce] at hsm
          simp only at hsm
          obtain ⟨hnz, htz⟩ := hsm
          have HCS2 : Hid (cels ps (k + 1) = cels ps k ++ [⟨nm, tx⟩]) := by unfold Hid; rw [HCS.out, hce]
          clear HCS hnm htx hce hmx hQr
          generalize cels ps k = cs at *
          have hcsl2 : cs.length ≤ 1048576 := by omega
          clear hcsl
          obtain ⟨va, vc, rfl⟩ := hdg.slice
          have HG0 : Hid (DG (w2.alloc (.cells #[.string key, .slice none 0 0] 34)) wr w2.heap.size key (.slice va cs.length vc) cs) := hdg
          clear hdg
          go_wp2_with fail
          refine HCY.mono ?_
          rintro e wz ⟨rfl, hbz⟩
          have HG : Hid (DG (w2.alloc (.cells #[.string key, .slice none 0 0] 34)) wz w2.heap.size key (.slice va cs.length vc) cs) := HG0.out.step hbz
          have k1 := HG.out.d.cell 1
          have hDl := HG.out.d.lt
          simp at k1
          clear HG0 hbz HCY
          go_wp2_with fail
          go_region_law (first
            | (go_simp; go_at_call 70; refine (clone_any nm _ (by omega)).mono ?_; rintro e wz ⟨rfl, hbz⟩; have HG : Hid (DG (w2.alloc (.cells #[.string key, .slice none 0 0] 34)) wz w2.heap.size key (.slice va cs.length vc) cs) := HG.out.step ⟨hbz.os, hbz.tape, hbz.output, hbz.size, hbz.block⟩; have k1 := HG.out.d.cell 1; have hDl := HG.out.d.lt; simp at k1; clear hbz)
            | (go_simp; go_at_call 70; refine (clone_any tx _ (by omega)).mono ?_; rintro e wz ⟨rfl, hbz⟩; have HG : Hid (DG (w2.alloc (.cells #[.string key, .slice none 0 0] 34)) wz w2.heap.size key (.slice va cs.length vc) cs) := HG.out.step ⟨hbz.os, hbz.tape, hbz.output, hbz.size, hbz.block⟩; have k1 := HG.out.d.cell 1; have hDl := HG.out.d.lt; simp at k1; clear hbz)
            | (refine step_append_lies _ (by rfl) _ _ 32 (by rfl) (w2.heap.size + 1) 92 i0 (.agg #[.string ⟨#[]⟩, .string ⟨#[]⟩]) 2 32 Tryd.underlying32 hi hz0 hz1 hz2 rfl (by decide) (.slice va cs.length vc) cs.length (celCells cs) (by rfl) (HG.out.own.alloc _) ⟨wz.heap.size, 0, none⟩ 1 1 [.string nm, .string tx] (by rfl) rfl (cells_new _ _ _) (two_one _ _) (by omega) (by unfold maxLen; omega) (by omega) (by simp; omega) (wz.heap.size + 1) (by simp) ?_; intro g6 c6 w6 hown' hgrow hat hlt6; have hd6 : Blk w6 w2.heap.size #[.string key, .slice va cs.length vc] 34 := (HG.out.alloc _).d.grown hgrow (HG.out.alloc (.cells #[] 92)).ne; have k6 := hd6.cell 1; have y6 := hd6.frozen 1; simp at k6))
          all_goals
            have HN : Hid (DG (w2.alloc (.cells #[.string key, .slice none 0 0] 34)) (w6.setCell ⟨w2.heap.size, 1, none⟩ (.slice (some ⟨g6, 0, none⟩) (cs.length + 1) c6)) w2.heap.size key (.slice (some ⟨g6, 0, none⟩) (cs.length + 1) c6) (cs ++ [⟨nm, tx⟩])) := (HG.out.alloc _).snoc hown' hgrow
            clear hown' hgrow hd6 HG
            go_wp2
            go_roundw
            case rel => exact ⟨k + 1, _, by omega, by go_num, HLS.out h2, by rw [HCS2.out]; exact HN.out⟩
            case measure => simp [intOf]; omega
      have hkl : k = n := by omega
      subst hkl
      have HDE : Hid (DG (w2.alloc (.cells #[.string key, .slice none 0 0] 34)) wr w2.heap.size key v (cels ps k)) := hdg
      obtain ⟨va, vc, rfl, hvc, _, _, hcr⟩ := owns_celRow hdg.own (celTo_cells (cels ps k))
      have d0 := hdg.d.cell 0
      have d1 := hdg.d.cell 1
      have hQr := HQ3.out.below hdg.bel hQl
      simp at d0 d1
      have HFM := form_any key va vc (cels ps k) wr hz00 (by rw [cels_len]; omega) (fun i hi => by rw [cels_len] at hi; rw [cels_at _ _ _ hi]; exact celOf_small (HSZ.out (i + 1) (by omega))) hcr
      rw [cels_len] at HFM
      rw [cels_len] at d1
      have HFMH : Hid (Calls Tryd.prog 67 #[.agg #[.string key, .slice va k vc]] wr fun e w' => e = .returned (.bool (formB key (cels ps k))) ∧ Below wr.heap.size wr w') := HFM
      have HPO : Hid (docOkP ps = formB key (cels ps k)) := by
        have := docOkP_form (ps := ps) (by rw [hlen]; exact HLT.out)
        rw [hlen, hkey] at this
        exact this
      clear HFM hcr hdg
      go_wp2_with fail
      refine HFMH.out.mono ?_
      rintro e w4 ⟨rfl, hb4⟩
      have hbD4 := hdgbel.trans (hb4.mono (Nat.le_of_lt HDE.out.d.lt))
      have HDE4 : Hid (DG (w2.alloc (.cells #[.string key, .slice none 0 0] 34)) w4 w2.heap.size key (.slice va (cels ps k).length vc) (cels ps k)) := HDE.out.step hb4
      have hQ4 := hQr.below hb4 hQr.lt
      have q0 := hQ4.cell 0
      have q1 := hQ4.cell 1
      have f0 := hQ4.frozen 0
      have f1 := hQ4.frozen 1
      have d40 := HDE4.out.d.cell 0
      have d41 := HDE4.out.d.cell 1
      simp at q0 q1 d40 d41
      rw [cels_len] at d41
      have hbw4 : Below w.heap.size w w4 := hbw3.trans (hbD4.mono (by omega))
      cases hfm : formB key (cels ps k) with
      | false =>
        have HNO : Hid (docOkP (dparts s) = false) := by unfold Hid; rw [HPS.out, HPO.out, hfm]
        have q2 := ((hQ4.set 0 (.string ⟨#[]⟩)).set 1 (.slice none 0 0)).cell 0
        have q3 := ((hQ4.set 0 (.string ⟨#[]⟩)).set 1 (.slice none 0 0)).cell 1
        simp at q2 q3
        have Q2 : Hid (((w4.setCell ⟨w.heap.size, 0, none⟩ (.string ⟨#[]⟩)).setCell ⟨w.heap.size, 1, none⟩ (.slice none 0 0)).cell? ⟨w.heap.size, 0, none⟩ = some (.string ⟨#[]⟩)) := q2
        have Q3 : Hid (((w4.setCell ⟨w.heap.size, 0, none⟩ (.string ⟨#[]⟩)).setCell ⟨w.heap.size, 1, none⟩ (.slice none 0 0)).cell? ⟨w.heap.size, 1, none⟩ = some (.slice none 0 0)) := q3
        clear q2 q3 hQ4 hQr
        go_wp2
        exact bodyPost_ret (v := .tuple #[.agg #[.string ⟨#[]⟩, .slice none 0 0], .bool false]) (by simp [results, Tryd.results23, go_sem, Q2.out, Q3.out]) rfl (getAns_none HNO.out ((hbw4.setCell (Nat.le_refl _) _).setCell (Nat.le_refl _) _))
      | true =>
        have HYES : Hid (docOkP (dparts s) = true) := by unfold Hid; rw [HPS.out, HPO.out, hfm]
        have q2 := ((hQ4.set 0 (.string key)).set 1 (.slice va k vc)).cell 0
        have q3 := ((hQ4.set 0 (.string key)).set 1 (.slice va k vc)).cell 1
        simp at q2 q3
        have Q2 : Hid (((w4.setCell ⟨w.heap.size, 0, none⟩ (.string key)).setCell ⟨w.heap.size, 1, none⟩ (.slice va k vc)).cell? ⟨w.heap.size, 0, none⟩ = some (.string key)) := q2
        have Q3 : Hid (((w4.setCell ⟨w.heap.size, 0, none⟩ (.string key)).setCell ⟨w.heap.size, 1, none⟩ (.slice va k vc)).cell? ⟨w.heap.size, 1, none⟩ = some (.slice va k vc)) := q3
        have HOW : Hid (((w4.setCell ⟨w.heap.size, 0, none⟩ (.string key)).setCell ⟨w.heap.size, 1, none⟩ (.slice va k vc)).ownsRow w.heap.size 92 2 (.slice va k vc) (cels ps k).length (celCells (cels ps k))) := by
          have h0 := ownsRow_mono (b' := w.heap.size) HDE4.out.own (by omega)
          have hne : ∀ j, (Value.slice va (cels ps k).length vc).ownBlock = some j → some j ≠ some w.heap.size := fun j hj e => by
            have := (HDE4.out.own.lt j hj).1
            cases e
            omega
          have hk : (Value.slice va (cels ps k).length vc).ownBlock = none ∨ (Value.slice va (cels ps k).length vc).ownBlock ≠ some w.heap.size := by
            cases hv : (Value.slice va (cels ps k).length vc).ownBlock with
            | none => exact .inl rfl
            | some j => exact .inr (hne j hv)
          have h1 := (h0.kept (grown_cell w4 w.heap.size 0 (.string key)) hk).kept (grown_cell _ w.heap.size 1 (.slice va k vc)) hk
          rw [cels_len] at h1 ⊢
          exact h1
        clear q2 q3 hQ4 hQr
        go_wp2
        exact bodyPost_ret (v := .tuple #[.agg #[.string key, .slice va k vc], .bool true]) (by simp [results, Tryd.results23, go_sem, Q2.out, Q3.out]) rfl (getAns_some HYES.out (by rw [HPS.out]; exact hkey) (by rw [HPS.out, hlen]; try rfl) (cels_len _ _) HOW.out ((hbw4.setCell (Nat.le_refl _) _).setCell (Nat.le_refl _) _))
end Go.Proofs.YtinniomeblkmeaaDoor
