/- wordsOf: the words of the rows. -/
import Derived.Test.YtbifagdcnpnpjaaGreatAddW
import Derived.Test.YtbifagdcnpnpjaaGreatIdxMadeS2
namespace Go.Proofs.YtbifagdcnpnpjaaGreat
open Go Go.RowKit Go.BigFrame
set_option linter.unusedVariables false

theorem found_kindW {fs : List Fld} {n : ByteArray} {f : Fld} {b : Bool} (h : FoundF fs n f b) : (f.kind == 1) = kindB fs n 1 := by
  unfold kindB
  rcases found_idx h with ⟨_, _, rfl⟩ | ⟨hb, hi⟩
  · rfl
  · rcases h with ⟨rfl, _⟩ | ⟨_, rfl, _⟩
    · cases hb
    · rw [hi]
      have e : fat fs fs.length = default := by simp [fat]
      rw [e]
/-- The words of a list of entries, as they lie. -/
structure WSt (w : World) (B bw b0 : Nat) (es : List Ent) (n : Nat) : Prop where
  ex : ∃ s ib vl fp vo, AddS w B bw b0 s (2 * n) ib vl fp vo ∧ WRel es s
  en : EntsN es n
theorem WSt.below {w w' : World} {B bw b0 n : Nat} {es : List Ent} (h : WSt w B bw b0 es n) (hb : Below w.heap.size w w') : WSt w' B bw b0 es n := by
  obtain ⟨⟨s, ib, vl, fp, vo, h1, h2⟩, h3⟩ := h
  exact ⟨⟨s, ib, vl, fp, vo, h1.below hb, h2⟩, h3⟩
theorem WSt.mono {w : World} {B bw b0 n m : Nat} {es : List Ent} (h : WSt w B bw b0 es n) (hm : n ≤ m) : WSt w B bw b0 es m := by
  obtain ⟨⟨s, ib, vl, fp, vo, h1, h2⟩, h3⟩ := h
  exact ⟨⟨s, ib, vl, fp, vo, ⟨h1.wm.mono (by omega), h1.bx, h1.od⟩, h2⟩, h3.mono hm⟩
theorem addWSt_any (B bw b0 n : Nat) (es : List Ent) (f t : ByteArray) (doc at' : Int) (w : World) (hB : B ≤ bw) (hn : n ≤ 1000000) (hfs : f.size ≤ 1048576) (hts : t.size ≤ 1048576) (h : WSt w B bw b0 es n) :
    Calls Tryz.prog 121 #[.pointer (some ⟨bw, 0, none⟩), .agg #[.string f, .string t], .int .i64 doc, .int .i64 at'] w fun e w' => e = .returned (.tuple #[]) ∧ WSt w' B bw b0 (wordAddIf es f t doc at') (n + 1) ∧ AddFr B bw w w' := by
  obtain ⟨⟨s, ib, vl, fp, vo, h1, h2⟩, h3⟩ := h
  have hol : s.o.length ≤ 1000000 := by rw [h2.o, keysE_len]; have := h3.len; omega
  refine (addW_any B bw b0 (2 * n) s ib vl fp vo f t doc at' w hB (by omega) (by rw [h2.o]; exact h2.asc) hol hfs hts h1).mono ?_
  rintro e w' ⟨rfl, ⟨ib', vl', fp', vo', h4⟩, h5⟩
  exact ⟨rfl, ⟨⟨_, ib', vl', fp', vo', h4, h2.add f t doc at'⟩, h3.addIf f t doc at' hfs hts⟩, h5⟩
theorem row_fr {B bw : Nat} {w w' : World} (hf : AddFr B bw w w') {p : Option Addr} {c n : Nat} {xs : List Value} {base s : Nat} (h : w.ownsRow base 9 s (.slice p n c) n xs) (hb : ∀ g, Value.ownBlock (.slice p n c) = some g → g ≠ bw) : w'.ownsRow base 9 s (.slice p n c) n xs := row_same h fun g hg => by
  obtain ⟨cs, hc⟩ := row_kind h g hg
  exact hf.oth g cs _ hc (by decide) (by decide) (by decide) (hb g hg)
theorem AddS.tch {w w' : World} {B bw b0 N rb : Nat} {s : WS} {ib : ByteArray → Option Nat} {vl : ByteArray → ByteArray → Value} {fp : ByteArray → ByteArray → List Nat} {vo : Value} (h : AddS w B bw b0 s N ib vl fp vo) (ht : Tch [rb] w w') {C : Array Value} (hr : Blk w rb C 82) (hne : rb ≠ bw) : AddS w' B bw b0 s N ib vl fp vo := by
  have hk : ∀ b, b < w.heap.size → b ≠ rb → w'.heap[b]? = w.heap[b]? := fun b hb hn => ht.2 b hb (by simpa using hn)
  refine ⟨h.wm.kept fun b hb => hk b hb.lt (fun e => ?_), (hk bw h.bx.lt (fun e => hne e.symm)).trans h.bx, row_same h.od fun g hg => hk g (h.od.lt g hg).2 (fun e => ?_)⟩
  · subst e
    exact hb.not hr (by decide) (by decide)
  · subst e
    obtain ⟨cs, hc⟩ := row_kind h.od g hg
    unfold Blk at hr
    rw [hc] at hr
    cases hr
set_option maxRecDepth 100000 in
set_option maxHeartbeats 4000000 in
theorem wordsOf_any (pf : Option Addr) (cf : Nat) (fs : List Fld) (pr : Option Addr) (cr : Nat) (rs : List Rw) (w : World) (hfl : fs.length ≤ 1048576) (hf : FldRow w pf fs) (hrl : RwsL rs) (hr : RwRow w pr rs) :
    Calls Tryz.prog 92 #[.slice pf fs.length cf, .slice pr rs.length cr] w fun e w' => ∃ (b0 bw : Nat) (vo : Value), e = .returned (.agg #[.map (some b0), vo]) ∧ (∃ s ib vl fp, AddS w' w.heap.size bw b0 s 2000000 ib vl fp vo ∧ WRel (madeE fs rs) s) ∧ EntsN (madeE fs rs) 1000000 ∧ Below w.heap.size w w' := by
  have HF : Hid (∀ wx, Below w.heap.size w wx → FldRow wx pf fs) := fun wx h => hf.below h
  have HR : Hid (∀ wx, Below w.heap.size w wx → RwRow wx pr rs) := fun wx h => hr.below h
  have HRL : Hid (∀ r ∈ rs, CelsL r.cells) := hrl.2
  have hrn := hrl.1
  obtain ⟨W0, hW0⟩ : ∃ W0, ((w.alloc (.cells #[.map none, .slice none 0 0] 82)).alloc (.map #[] 0)).alloc (.cells #[.map (some (w.heap.size + 1)), .slice none 0 0] 82) = W0 := ⟨_, rfl⟩
  have hs1 : (w.alloc (.cells #[.map none, .slice none 0 0] 82)).heap.size = w.heap.size + 1 := by simp
  have hs2 : ((w.alloc (.cells #[.map none, .slice none 0 0] 82)).alloc (.map #[] 0)).heap.size = w.heap.size + 2 := by simp
  have hbW : Below w.heap.size w W0 := by rw [← hW0]; exact (((Below.refl _ w).alloc (Nat.le_refl _) _).alloc (by omega) _).alloc (by omega) _
  have HR0 : Hid (Blk W0 w.heap.size #[.map none, .slice none 0 0] 82) := by
    unfold Hid
    rw [← hW0]
    exact ((Blk.new w _ _).alloc _).alloc _
  have HW0 : Hid (WSt W0 w.heap.size (w.heap.size + 2) (w.heap.size + 1) (rowsE fs rs 0) 0) := by
    have h1 := WM.start (w.alloc (.cells #[.map none, .slice none 0 0] 82)) (B := w.heap.size) (by omega)
    rw [hs1] at h1
    have h2 : Below ((w.alloc (.cells #[.map none, .slice none 0 0] 82)).alloc (.map #[] 0)).heap.size ((w.alloc (.cells #[.map none, .slice none 0 0] 82)).alloc (.map #[] 0)) W0 := by rw [← hW0]; exact (Below.refl _ _).alloc (Nat.le_refl _) _
    have h3 : Blk W0 (w.heap.size + 2) #[.map (some (w.heap.size + 1)), .slice none 0 0] 82 := by rw [← hW0, ← hs2]; exact Blk.new _ _ _
    exact ⟨⟨_, _, _, _, _, ⟨h1.below h2, h3, World.ownsRow_nil _ _ _ _⟩, WRel.start⟩, ⟨Nat.le_refl _, fun e he => by cases he⟩⟩
  have HE0 : Hid (((w.alloc (.cells #[.map none, .slice none 0 0] 82)).alloc (.map #[] 0)).alloc (.cells #[.map (some (w.heap.size + 1)), .slice none 0 0] 82) = W0) := hW0
  clear hf hr hrl hs1 hs2 hW0
  have hbw : w.heap.size ≤ w.heap.size + 2 := by omega
  go_enter Tryz.func92, Tryz.ntmps92
  have e3 := mk_map'
  go_wp2_with fail
  clear e3
  rw [HE0.out]
  clear HE0
  have HW0 : Hid (WSt W0 w.heap.size (w.heap.size + 1 + 1) (w.heap.size + 1) (rowsE fs rs 0) 0) := HW0.out
  have hbw : w.heap.size ≤ w.heap.size + 1 + 1 := hbw
  generalize hbwe : w.heap.size + 1 + 1 = bw at *
  generalize hb0e : w.heap.size + 1 = b0 at *
  go_loopw [18] (fun i wr => ∃ k : Nat, k ≤ rs.length ∧ i = .int .i64 k ∧ WSt wr w.heap.size bw b0 (rowsE fs rs k) (k * 10000) ∧ AddFr w.heap.size bw W0 wr) (fun i _ => rs.length - (intOf i).toNat)
  case atStart => exact ⟨0, Nat.zero_le _, rfl, by simpa using HW0.out, .refl _ _ _⟩
  case round =>
    clear HW0
    obtain ⟨k, hk, rfl, hws, hfr⟩ := hrel
    have HWS : Hid (WSt wr w.heap.size bw b0 (rowsE fs rs k) (k * 10000)) := hws
    have HFR : Hid (AddFr w.heap.size bw W0 wr) := hfr
    have hbel : Below w.heap.size w wr := hbW.trans hfr.below
    clear hws hfr
    by_cases hlt : k < rs.length
    · have hltI : (k : Int) < (rs.length : Int) := by omega
      obtain ⟨gr, off, rfl, hgr, hc⟩ := (HR.out w (Below.refl _ _)) (by omega)
      obtain ⟨q, c, c0', c1', c2', hcl, hcel⟩ := hc k rs[k] (List.getElem?_eq_getElem hlt)
      have c0 := (hbel.cell (p := ⟨gr, off + k * 3, none⟩) hgr).trans c0'
      have c1 := (hbel.cell (p := ⟨gr, off + k * 3 + 1, none⟩) hgr).trans c1'
      have c2 := (hbel.cell (p := ⟨gr, off + k * 3 + 2, none⟩) hgr).trans c2'
      have HST : Hid (rowsE fs rs (k + 1) = cellsE fs (rowsE fs rs k) rs[k].id rs[k].cells rs[k].cells.length) := by unfold Hid; rw [cellsE_all, rat_get rs k hlt]
      have HCR : Hid (∀ wx, Below w.heap.size w wx → CelRow wx q rs[k].cells) := fun wx hb => hcel.below hb
      have HCC : Hid (CelsL rs[k].cells) := HRL.out _ (List.getElem_mem hlt)
      clear hc hcel c0' c1' c2'
      generalize rs[k] = x at *
      obtain ⟨id, key, cs⟩ := x
      simp only at c0 c1 c2 hcl HST HCR HCC
      generalize rowsE fs rs k = E at *
      obtain ⟨W1, hW1⟩ : ∃ W1, wr.alloc (.cells #[.int .i64 id, .string key, .slice q cs.length c] 69) = W1 := ⟨_, rfl⟩
      have hb1 : Below wr.heap.size wr W1 := by rw [← hW1]; exact (Below.refl _ _).alloc (Nat.le_refl _) _
      have HB1 : Hid (Blk W1 wr.heap.size #[.int .i64 id, .string key, .slice q cs.length c] 69) := by unfold Hid; rw [← hW1]; exact Blk.new _ _ _
      have HW1 : Hid (WSt W1 w.heap.size bw b0 (cellsE fs E id cs 0) (k * 10000 + 0)) := HWS.out.below hb1
      have HF1 : Hid (AddFr w.heap.size bw W0 W1) := HFR.out.trans (.of_below hbel.size hb1)
      have hbwb : wr.heap.size ≠ bw := by
        obtain ⟨⟨s, ib, vl, fp, vo, h1, _⟩, _⟩ := HWS.out
        have := h1.bx.lt
        omega
      have hbel1 : Below w.heap.size w W1 := hbW.trans HF1.out.below
      have r2 := HB1.out.cell 2
      simp at r2
      have HE1 : Hid (wr.alloc (.cells #[.int .i64 id, .string key, .slice q cs.length c] 69) = W1) := hW1
      clear hb1 HWS HFR hbel hW1
      go_wp2_with fail
      rw [HE1.out]
      clear HE1 c0 c1 c2 r2
      generalize wr.heap.size = rb at *
      have hsz1 := HB1.out.lt
      go_loopw [26] (fun i wr => ∃ j : Nat, j ≤ cs.length ∧ i = .int .i64 j ∧ WSt wr w.heap.size bw b0 (cellsE fs E id cs j) (k * 10000 + j * 1000) ∧ AddFr w.heap.size bw W1 wr) (fun i _ => cs.length - (intOf i).toNat)
      case atStart => exact ⟨0, Nat.zero_le _, rfl, by simpa using HW1.out, .refl _ _ _⟩
      case round =>
        rename World => wo
        rename World => wj
        clear HW1
        obtain ⟨j, hj, rfl, hws, hfr⟩ := hrel
        have HWS : Hid (WSt wj w.heap.size bw b0 (cellsE fs E id cs j) (k * 10000 + j * 1000)) := hws
        have HFR : Hid (AddFr w.heap.size bw W1 wj) := hfr
        have hbel : Below w.heap.size w wj := hbel1.trans hfr.below
        have hszj : W1.heap.size ≤ wj.heap.size := hfr.size
        clear hws hfr
        by_cases hlj : j < cs.length
        · have hljI : (j : Int) < (cs.length : Int) := by omega
          obtain ⟨g, coff, rfl, hg, hc⟩ := (HCR.out _ hbel) (by omega)
          obtain ⟨c0, c1⟩ := hc j hlj
          obtain ⟨hs0, hs1⟩ := HCC.out.2 j hlj
          have hcn := HCC.out.1
          have HST2 : Hid (cellsE fs E id cs (j + 1) = cellE fs (cellsE fs E id cs j) id (cat cs j)) := rfl
          clear hc
          generalize cat cs j = cl at *
          obtain ⟨nm, tx⟩ := cl
          simp only at c0 c1 hs0 hs1 HST2
          generalize cellsE fs E id cs j = E1 at *
          obtain ⟨W2, hW2⟩ : ∃ W2, wj.alloc (.cells #[.string nm, .string tx] 121) = W2 := ⟨_, rfl⟩
          have hb2 : Below wj.heap.size wj W2 := by rw [← hW2]; exact (Below.refl _ _).alloc (Nat.le_refl _) _
          have HB2 : Hid (Blk W2 wj.heap.size #[.string nm, .string tx] 121) := by unfold Hid; rw [← hW2]; exact Blk.new _ _ _
          have HW2 : Hid (WSt W2 w.heap.size bw b0 E1 (k * 10000 + j * 1000)) := HWS.out.below hb2
          have HF2 : Hid (AddFr w.heap.size bw W1 W2) := HFR.out.trans (.of_below hbel.size hb2)
          have hbwj : wj.heap.size ≠ bw := by
            obtain ⟨⟨s, ib, vl, fp, vo, h1, _⟩, _⟩ := HWS.out
            have := h1.bx.lt
            omega
          have hbel2 : Below w.heap.size w W2 := hbel1.trans HF2.out.below
          have HE2 : Hid (wj.alloc (.cells #[.string nm, .string tx] 121) = W2) := hW2
          have HKF : Hid (Calls Tryz.prog 104 #[.slice pf fs.length cf, .string nm] W2 fun e w' => ∃ (f : Fld) (b : Bool), e = .returned (.tuple #[.agg #[.string f.name, .int .i64 f.kind, .int .i64 f.weight], .bool b]) ∧ FoundF fs nm f b ∧ Below W2.heap.size W2 w') := fieldOf_any pf cf fs nm W2 hfl (HF.out _ hbel2)
          clear hb2 HWS HFR hW2
          go_wp2_with fail
          rw [HE2.out]
          refine HKF.out.mono ?_
          rintro e w3 ⟨fd, fb, rfl, hfound, hb3⟩
          have hkk := found_kindW hfound
          have HST3 : Hid (cellsE fs E id cs (j + 1) = if kindB fs nm 1 = true then termsE E1 nm id (termsL tx) (termsL tx).length else E1) := HST2.out
          have HW3 : Hid (WSt w3 w.heap.size bw b0 E1 (k * 10000 + j * 1000)) := HW2.out.below hb3
          have HF3 : Hid (AddFr w.heap.size bw W1 w3) := HF2.out.trans (.of_below hbel2.size hb3)
          have HB3 : Hid (Blk w3 wj.heap.size #[.string nm, .string tx] 121) := HB2.out.below hb3 HB2.out.lt
          have hs23 := hb3.size
          have hl2 := HB2.out.lt
          clear HKF hfound HW2 HF2 HB2 HE2 hb3 c0 c1 HST2
          obtain ⟨W4, hW4⟩ : ∃ W4, w3.alloc (.cells #[.string fd.name, .int .i64 fd.kind, .int .i64 fd.weight] 123) = W4 := ⟨_, rfl⟩
          have hb4 : Below w3.heap.size w3 W4 := by rw [← hW4]; exact (Below.refl _ _).alloc (Nat.le_refl _) _
          have HW4 : Hid (WSt W4 w.heap.size bw b0 E1 (k * 10000 + j * 1000)) := HW3.out.below hb4
          have HF4 : Hid (AddFr w.heap.size bw W1 W4) := HF3.out.trans (.of_below (by have := hbel2.size; omega) hb4)
          have HB4 : Hid (Blk W4 wj.heap.size #[.string nm, .string tx] 121) := HB3.out.below hb4 HB3.out.lt
          have hs34 := hb4.size
          have HE4 : Hid (w3.alloc (.cells #[.string fd.name, .int .i64 fd.kind, .int .i64 fd.weight] 123) = W4) := hW4
          clear hb4 hW4 HW3 HF3 HB3
          cases hkd : kindB fs nm 1 with
          | false =>
            rw [hkd] at hkk HST3
            have HE : Hid (WSt W4 w.heap.size bw b0 (cellsE fs E id cs (j + 1)) (k * 10000 + (j + 1) * 1000)) := by
              unfold Hid
              rw [HST3.out]
              exact HW4.out.mono (by omega)
            clear HST3 HW4
            go_wp2
            rw [HE4.out]
            go_roundw
            case rel => exact ⟨j + 1, by omega, by go_num, HE.out, HF4.out⟩
            case measure => simp [intOf]; omega
          | true =>
            rw [hkd] at hkk HST3
            have q1 : (w3.alloc (.cells #[.string fd.name, .int .i64 fd.kind, .int .i64 fd.weight] 123)).cell? ⟨wj.heap.size, 1, none⟩ = some (.string tx) := by rw [HE4.out, HB4.out.cell 1]; rfl
            have hsx : tx.size ≤ 1048576 := by omega
            go_wp2_with fail
            rw [HE4.out]
            refine (termsI_any tx W4 hsx).mono ?_
            rintro e w5 ⟨v, rfl, ho, _, hb5⟩
            have ho2 : w5.ownsRow W4.heap.size 9 1 v (termsL tx).length ((termsL tx).map Value.string) := by rw [← termCells_eq, termsL_len]; exact ho
            obtain ⟨pt, ct, rfl, _, _⟩ := owns_strs ho2
            have HT5 : Hid (w5.ownsRow W4.heap.size 9 1 (.slice pt (termsL tx).length ct) (termsL tx).length ((termsL tx).map Value.string)) := ho2
            have hbe5 : Below w.heap.size w W4 := hbel1.trans HF4.out.below
            have HW5 : Hid (WSt w5 w.heap.size bw b0 (termsE E1 nm id (termsL tx) 0) (k * 10000 + j * 1000 + 0)) := HW4.out.below hb5
            have HF5 : Hid (AddFr w.heap.size bw W1 w5) := HF4.out.trans (.of_below hbe5.size hb5)
            have HB5 : Hid (Blk w5 wj.heap.size #[.string nm, .string tx] 121) := HB4.out.below hb5 HB4.out.lt
            have HR5 : Hid (Blk w5 rb #[.int .i64 id, .string key, .slice (some ⟨g, coff, none⟩) cs.length c] 69) := HB1.out.fr HF5.out (by decide) (by decide) (by decide) hbwb
            have hbwt : bw < W4.heap.size := by
              obtain ⟨⟨s, ib, vl, fp, vo, h1, _⟩, _⟩ := HW4.out
              exact h1.bx.lt
            have htl := termsL_few tx
            have HTS : Hid (∀ m, (tat (termsL tx) m).size ≤ 12) := tat_le tx
            have HST4 : Hid (cellsE fs E id cs (j + 1) = termsE E1 nm id (termsL tx) (termsL tx).length) := HST3.out
            have hsnm : nm.size ≤ 1048576 := by omega
            clear ho ho2 hb5 q1 HW4 HF4 HB4 HST3 HE4 hkk
            generalize termsL tx = ts at *
            have htl2 : ts.length ≤ 1000 := by omega
            go_wp2_with fail
            go_loopw [44] (fun i wr => ∃ m : Nat, m ≤ ts.length ∧ i = .int .i64 m ∧ WSt wr w.heap.size bw b0 (termsE E1 nm id ts m) (k * 10000 + j * 1000 + m) ∧ AddFr w.heap.size bw w5 wr) (fun i _ => ts.length - (intOf i).toNat)
            case atStart => exact ⟨0, Nat.zero_le _, rfl, HW5.out, .refl _ _ _⟩
            case round =>
              clear HW5
              rename World => wp
              rename World => wm
              obtain ⟨m, hm, rfl, hws, hfr⟩ := hrel
              have HWS : Hid (WSt wm w.heap.size bw b0 (termsE E1 nm id ts m) (k * 10000 + j * 1000 + m)) := hws
              have HFR : Hid (AddFr w.heap.size bw w5 wm) := hfr
              have hbm := HB5.out.fr hfr (by decide) (by decide) (by decide) hbwj
              have hrm := HR5.out.fr hfr (by decide) (by decide) (by decide) hbwb
              by_cases hlm : m < ts.length
              · have hlmI : (m : Int) < (ts.length : Int) := by omega
                obtain ⟨pt2, ct2, e, hst, _⟩ := owns_strs (row_fr hfr HT5.out (fun g hg => by have := (HT5.out.lt g hg).1; omega))
                cases e
                obtain ⟨gt, rfl, hgt, htc⟩ := hst (by omega)
                have tc : wm.cell? ⟨gt, m, none⟩ = some (.string (tat ts m)) := htc m hlm
                have HSZ := HTS.out m
                have HT1 : Hid (termsE E1 nm id ts (m + 1) = wordAddIf (termsE E1 nm id ts m) nm (tat ts m) id m) := rfl
                have q0 := hbm.cell 0
                have r0 := hrm.cell 0
                simp at q0 r0
                clear hbm hrm hst htc hws hfr
                generalize tat ts m = t at *
                generalize termsE E1 nm id ts m = E3 at *
                have HAC : Hid (Calls Tryz.prog 121 #[.pointer (some ⟨bw, 0, none⟩), .agg #[.string nm, .string t], .int .i64 id, .int .i64 m] wm fun e w' => e = .returned (.tuple #[]) ∧ WSt w' w.heap.size bw b0 (wordAddIf E3 nm t id m) (k * 10000 + j * 1000 + m + 1) ∧ AddFr w.heap.size bw wm w') :=
                  addWSt_any w.heap.size bw b0 (k * 10000 + j * 1000 + m) E3 nm t id m wm hbw (by omega) hsnm (by omega) HWS.out
                clear HWS
                go_wp2_with fail
                refine HAC.out.mono ?_
                rintro e w7 ⟨rfl, hw7, hf7⟩
                have HW7 : Hid (WSt w7 w.heap.size bw b0 (termsE E1 nm id ts (m + 1)) (k * 10000 + j * 1000 + (m + 1))) := by
                  unfold Hid
                  rw [HT1.out]
                  exact hw7
                have HF7 : Hid (AddFr w.heap.size bw w5 w7) := HFR.out.trans hf7
                clear HAC HT1 HFR hw7 hf7 q0 r0 tc
                go_wp2
                go_roundw
                case rel => exact ⟨m + 1, by omega, by go_num, HW7.out, HF7.out⟩
                case measure => simp [intOf]; omega
              · have hml : m = ts.length := by omega
                subst hml
                have HE : Hid (WSt wm w.heap.size bw b0 (cellsE fs E id cs (j + 1)) (k * 10000 + (j + 1) * 1000)) := by
                  unfold Hid
                  rw [HST4.out]
                  exact HWS.out.mono (by omega)
                have HF8 : Hid (AddFr w.heap.size bw W1 wm) := HF5.out.trans HFR.out
                clear HWS HFR hbm hrm hws hfr
                go_wp2
                go_roundw
                case rel => exact ⟨j + 1, by omega, by go_num, HE.out, HF8.out⟩
                case measure => simp [intOf]; omega
        · have hjl : j = cs.length := by omega
          subst hjl
          have HE : Hid (WSt wj w.heap.size bw b0 (rowsE fs rs (k + 1)) ((k + 1) * 10000)) := by
            unfold Hid
            rw [HST.out]
            exact HWS.out.mono (by have := HCC.out.1; omega)
          have HFR2 : Hid (AddFr w.heap.size bw W0 wj) := HF1.out.trans HFR.out
          clear HWS HFR HST HCR HCC HB1
          go_wp2
          go_roundw
          case rel => exact ⟨k + 1, by omega, by go_num, HE.out, HFR2.out⟩
          case measure => simp [intOf]; omega
    · have hkl : k = rs.length := by omega
      subst hkl
      have h4 : Blk wr w.heap.size #[.map none, .slice none 0 0] 82 := HR0.out.fr HFR.out (by decide) (by decide) (by decide) (by omega)
      have HFIN : Hid (∃ vo, Blk wr bw #[.map (some b0), vo] 82 ∧ (∃ s ib vl fp, AddS wr w.heap.size bw b0 s 2000000 ib vl fp vo ∧ WRel (madeE fs rs) s) ∧ EntsN (madeE fs rs) 1000000) := by
        obtain ⟨⟨s, ib, vl, fp, vo, h1, h2⟩, h3⟩ := HWS.out
        exact ⟨vo, h1.bx, ⟨s, ib, vl, fp, ⟨h1.wm.mono (by omega), h1.bx, h1.od⟩, h2⟩, h3.mono (by omega)⟩
      obtain ⟨vo, h5, h6, h7⟩ := HFIN.out
      obtain ⟨po, no, co, rfl⟩ : ∃ po no co, vo = .slice po no co := by
        obtain ⟨s, ib, vl, fp, h1, _⟩ := h6
        obtain ⟨p, c, e, _⟩ := row_val h1.od
        exact ⟨p, _, c, e⟩
      have HB4 : Hid (Blk wr w.heap.size #[.map none, .slice none 0 0] 82) := h4
      have H6 : Hid (∃ s ib vl fp, AddS wr w.heap.size bw b0 s 2000000 ib vl fp (.slice po no co) ∧ WRel (madeE fs rs) s) := h6
      have H7 : Hid (EntsN (madeE fs rs) 1000000) := h7
      have x0 := h5.cell 0
      have x1 := h5.cell 1
      have y0 := h4.cell 0
      have y1 := h4.cell 1
      have z0 := h4.frozen 0
      have z1 := h4.frozen 1
      simp at x0 x1 y0 y1
      have hbf := hbW.trans HFR.out.below
      clear h4 h5 h6 h7 HFIN HWS HFR HR HF HRL HR0
      go_wp2
      have k0 := ((HB4.out.set 0 (.map (some b0))).set 1 (.slice po no co)).cell 0
      have k1 := ((HB4.out.set 0 (.map (some b0))).set 1 (.slice po no co)).cell 1
      simp at k0 k1
      refine bodyPost_ret (v := .agg #[.map (some b0), .slice po no co]) (by simp [results, Tryz.results92, go_sem, k0, k1]) rfl ⟨b0, bw, _, rfl, ?_, H7.out, (hbf.setCell (Nat.le_refl _) _).setCell (Nat.le_refl _) _⟩
      obtain ⟨s, ib, vl, fp, h1, h2⟩ := H6.out
      exact ⟨s, ib, vl, fp, h1.tch ((Tch.set (by simp) _).trans (Tch.set (by simp) _)) HB4.out (by omega), h2⟩
end Go.Proofs.YtbifagdcnpnpjaaGreat
