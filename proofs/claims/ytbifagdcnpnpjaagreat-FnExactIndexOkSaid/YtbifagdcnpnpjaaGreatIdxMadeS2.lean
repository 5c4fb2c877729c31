/- l4Doc and l4Made of the model: the walks. -/
import Derived.Test.YtbifagdcnpnpjaaGreatMg0FnExactIndexOk
namespace Go.Proofs.YtbifagdcnpnpjaaGreat
open Go Go.RowKit Go.BigFrame
set_option linter.unusedVariables false

theorem owns_strs {w : World} {base : Nat} {v : Value} {ss : List ByteArray} (h : w.ownsRow base 9 1 v ss.length (ss.map Value.string)) : ∃ p c, v = .slice p ss.length c ∧ StrRow w p ss ∧ ∀ x, p = some x → base ≤ x.block := by
  obtain ⟨p, c, rfl, _, _, _, hx⟩ := row_val h
  obtain ⟨a, cap, e, hr⟩ := owns_strRow h
  cases e
  exact ⟨p, c, rfl, hr, fun x e => by obtain ⟨g, rfl, hg, _⟩ := hx x e; exact hg⟩
theorem StrRow.tch {w w' : World} {p : Option Addr} {ss : List ByteArray} {fp : List Nat} (h : StrRow w p ss) (ht : Tch fp w w') (hn : ∀ x, p = some x → x.block ∉ fp) : StrRow w' p ss := fun hp => by
  obtain ⟨g, e, hg, hc⟩ := h hp
  exact ⟨g, e, Nat.lt_of_lt_of_le hg ht.size, fun i hi => (World.cell?_of_block (ht.2 g hg (hn _ e))).trans (hc i hi)⟩
theorem wordAddIf_nil {es : List Ent} {f t : ByteArray} (h : t.size = 0) (doc at' : Int) : wordAddIf es f t doc at' = es := if_pos h
theorem wordAddIf_not {es : List Ent} {f t : ByteArray} (h : t.size ≠ 0) (doc at' : Int) : wordAddIf es f t doc at' = wordAdd es f t doc at' := if_neg h
theorem LSt.next {w0 wr w' : World} {B : Nat} {FP : List Nat} {G CC G' C' : Nat} {xs xs' : List Value} {es es' : List Ent} {fps fps' : Nat → List Nat} (h : LSt w0 B FP wr G CC xs es fps) (hg : GRow entEl w' B (.slice (some ⟨G', 0, none⟩) es'.length C') xs' es' fps')
    (hs : ∀ b ∈ footOf (.slice (some ⟨G', 0, none⟩) es'.length C') fps' es'.length, b ∈ footOf (.slice (some ⟨G, 0, none⟩) es.length CC) fps es.length ∨ wr.heap.size ≤ b) (ht : Tch (footOf (.slice (some ⟨G, 0, none⟩) es.length CC) fps es.length) wr w') : LSt w0 B FP w' G' C' xs' es' fps' :=
  ⟨hg, fun b hb => by
    rcases hs b hb with h1 | h1
    · exact h.sub b h1
    · exact .inr (Nat.le_trans h.tch.size h1), h.tch.then ht h.sub⟩
theorem LSt.away {w0 wr w' : World} {B : Nat} {FP : List Nat} {G CC : Nat} {xs : List Value} {es : List Ent} {fps : Nat → List Nat} (h : LSt w0 B FP wr G CC xs es fps) {b : Nat} (hb : b < w0.heap.size) (hn : b ∉ FP) : b ∉ footOf (.slice (some ⟨G, 0, none⟩) es.length CC) fps es.length := fun hm => by
  rcases h.sub b hm with h1 | h1
  · exact hn h1
  · omega
/-- What holds in a round over the terms of a text. -/
structure InT (Wb : World) (B : Nat) (FP : List Nat) (wr : World) (G C : Nat) (xs : List Value) (E : List Ent) (fps : Nat → List Nat) (N : Nat) (bx : Nat) (X : Array Value) (pt : Option Addr) (ts : List ByteArray) : Prop where
  l : LSt Wb B FP wr G C xs E fps
  n : EntsN E N
  b : Blk wr bx X 69
  t : StrRow wr pt ts
  a : ∀ x, pt = some x → x.block ∉ footOf (.slice (some ⟨G, 0, none⟩) E.length C) fps E.length
theorem InT.next {Wb : World} {B : Nat} {FP : List Nat} {wr w' : World} {G C G' C' : Nat} {xs xs' : List Value} {E E' : List Ent} {fps fps' : Nat → List Nat} {N : Nat} {bx : Nat} {X : Array Value} {pt : Option Addr} {ts : List ByteArray} (h : InT Wb B FP wr G C xs E fps N bx X pt ts) (hbx : bx < Wb.heap.size) (hbF : bx ∉ FP) (hts : 0 < ts.length)
    (hn : EntsN E' (N + 1)) (hg : GRow entEl w' B (.slice (some ⟨G', 0, none⟩) E'.length C') xs' E' fps')
    (hs : ∀ b ∈ footOf (.slice (some ⟨G', 0, none⟩) E'.length C') fps' E'.length, b ∈ footOf (.slice (some ⟨G, 0, none⟩) E.length C) fps E.length ∨ wr.heap.size ≤ b) (ht : Tch (footOf (.slice (some ⟨G, 0, none⟩) E.length C) fps E.length) wr w') : InT Wb B FP w' G' C' xs' E' fps' (N + 1) bx X pt ts :=
  ⟨h.l.next hg hs ht, hn, (ht.2 bx h.b.lt (h.l.away (w' := w') hbx hbF)).trans h.b, h.t.tch ht h.a, fun x e hm => by
    obtain ⟨g, e2, hgl, _⟩ := h.t hts
    rcases hs _ hm with h1 | h1
    · exact h.a x e h1
    · rw [e] at e2
      cases e2
      have h2 : wr.heap.size ≤ g := h1
      omega⟩
theorem InT.drew {Wb : World} {B : Nat} {FP : List Nat} {wr : World} {G C : Nat} {xs : List Value} {E : List Ent} {fps : Nat → List Nat} {N : Nat} {bx : Nat} {X : Array Value} {pt : Option Addr} {ts : List ByteArray} (h : InT Wb B FP wr G C xs E fps N bx X pt ts) : InT Wb B FP wr.drew G C xs E fps N bx X pt ts :=
  ⟨h.l.below (below_drew (Below.refl _ _)), h.n, h.b, h.t, h.a⟩
theorem InT.drewN {Wb : World} {B : Nat} {FP : List Nat} {wr : World} {G C : Nat} {xs : List Value} {E : List Ent} {fps : Nat → List Nat} {N : Nat} {bx : Nat} {X : Array Value} {pt : Option Addr} {ts : List ByteArray} (h : InT Wb B FP wr G C xs E fps N bx X pt ts) (n : Nat) : InT Wb B FP (wr.drewN n) G C xs E fps N bx X pt ts :=
  ⟨h.l.below (below_drewN (Below.refl _ _) _), h.n, h.b, h.t, h.a⟩
theorem InT.mono {Wb : World} {B : Nat} {FP : List Nat} {wr : World} {G C : Nat} {xs : List Value} {E : List Ent} {fps : Nat → List Nat} {N M : Nat} {bx : Nat} {X : Array Value} {pt : Option Addr} {ts : List ByteArray} (h : InT Wb B FP wr G C xs E fps N bx X pt ts) (hm : N ≤ M) : InT Wb B FP wr G C xs E fps M bx X pt ts :=
  ⟨h.l, h.n.mono hm, h.b, h.t, h.a⟩
set_option maxRecDepth 100000 in
set_option maxHeartbeats 4000000 in
theorem l4Doc_any (pf : Option Addr) (cf : Nat) (fs : List Fld) (G CC B N : Nat) (xs : List Value) (es : List Ent) (fps : Nat → List Nat) (id : Int) (key : ByteArray) (qc : Option Addr) (cc : Nat) (cs : List Cel) (w : World) (hB : B ≤ w.heap.size)
    (hfl : fs.length ≤ 1048576) (hf : ∀ wx, Below B w wx → FldRow wx pf fs) (hcl : CelsL cs) (hcr : ∀ wx, Below B w wx → CelRow wx qc cs) (hN : EntsN es N) (hN2 : N + 10000 ≤ 1048576) (h : GRow entEl w B (.slice (some ⟨G, 0, none⟩) es.length CC) xs es fps) :
    Calls Tryz.prog 86 #[.slice pf fs.length cf, .slice (some ⟨G, 0, none⟩) es.length CC, .agg #[.int .i64 id, .string key, .slice qc cs.length cc]] w fun e w' =>
      WordA (cellsE fs es id cs cs.length) B (.slice (some ⟨G, 0, none⟩) es.length CC) fps es.length w w' e ∧ EntsN (cellsE fs es id cs cs.length) (N + 10000) := by
  obtain ⟨FP, hFP⟩ : ∃ FP, footOf (.slice (some ⟨G, 0, none⟩) es.length CC) fps es.length = FP := ⟨_, rfl⟩
  have hFB : ∀ b ∈ FP, B ≤ b := fun b hb => (h.lt b (by rw [hFP]; exact hb)).1
  have hFW : ∀ b ∈ FP, b < w.heap.size := fun b hb => (h.lt b (by rw [hFP]; exact hb)).2
  obtain ⟨Wb, hWb⟩ : ∃ Wb, w.alloc (.cells #[.int .i64 id, .string key, .slice qc cs.length cc] 69) = Wb := ⟨_, rfl⟩
  have hbb : Below w.heap.size w Wb := by rw [← hWb]; exact (Below.refl _ w).alloc (Nat.le_refl _) _
  have hWs : Wb.heap.size = w.heap.size + 1 := by rw [← hWb]; simp
  have B0 : Blk Wb w.heap.size #[.int .i64 id, .string key, .slice qc cs.length cc] 69 := by rw [← hWb]; exact Blk.new w _ _
  have hTW : Tch FP w Wb := Tch.of_below hbb
  have L0 := LSt.start (h.below hbb)
  rw [hFP] at L0
  have HPOST : Hid (∀ G' C' xs' fps' w', LSt Wb B FP w' G' C' xs' (cellsE fs es id cs cs.length) fps' → WordA (cellsE fs es id cs cs.length) B (.slice (some ⟨G, 0, none⟩) es.length CC) fps es.length w w' (.returned (.slice (some ⟨G', 0, none⟩) (cellsE fs es id cs cs.length).length C'))) := fun G' C' xs' fps' w' hl =>
    ⟨G', C', xs', fps', rfl, hl.g, fun b hb => by
      rw [hFP]
      rcases hl.sub b hb with h1 | h1
      · exact .inl h1
      · exact .inr (by omega), by rw [hFP]; exact hTW.trans hl.tch⟩
  have HF : Hid (∀ wx, Tch FP Wb wx → FldRow wx pf fs) := fun wx ht => hf wx ((hTW.trans ht).below hFB hB)
  have HCR : Hid (∀ wx, Tch FP Wb wx → CelRow wx qc cs) := fun wx ht => hcr wx ((hTW.trans ht).below hFB hB)
  have HCL : Hid (∀ i, i < cs.length → (cat cs i).name.size ≤ 1000 ∧ (cat cs i).text.size ≤ 1000) := hcl.2
  have hcn := hcl.1
  have HL1 : Hid (LSt Wb B FP Wb G CC xs es fps) := L0
  have HN : Hid (EntsN es N) := hN
  have HFW : Hid (w.heap.size ∉ FP) := fun hm => by have := hFW _ hm; omega
  have HWL : Hid (w.heap.size < Wb.heap.size) := by unfold Hid; omega
  clear h hf hcr hcl L0 hN hFB hFW hFP hTW hbb hWs
  go_enter Tryz.func86, Tryz.ntmps86
  go_wp2
  go_loopw [1, 7] (fun lv i wr => ∃ (k G' C' : Nat) (xs' : List Value) (fps' : Nat → List Nat), k ≤ cs.length ∧ i = .int .i64 k ∧ lv = .slice (some ⟨G', 0, none⟩) (cellsE fs es id cs k).length C' ∧ LSt Wb B FP wr G' C' xs' (cellsE fs es id cs k) fps' ∧ EntsN (cellsE fs es id cs k) (N + k * 1000) ∧ Blk wr w.heap.size #[.int .i64 id, .string key, .slice qc cs.length cc] 69) (fun _ i _ => cs.length - (intOf i).toNat)
  case atStart => exact ⟨0, G, CC, xs, fps, Nat.zero_le _, rfl, rfl, HL1.out, HN.out, B0⟩
  case round =>
    clear HL1 HN B0 hWb
    obtain ⟨k, G1, C1, xs1, fps1, hk, rfl, rfl, hls, hen, hbx⟩ := hrel
    have b0 := hbx.cell 0
    have b1 := hbx.cell 1
    have b2 := hbx.cell 2
    simp at b0 b1 b2
    have HLS : Hid (LSt Wb B FP wr G1 C1 xs1 (cellsE fs es id cs k) fps1) := hls
    have HEN : Hid (EntsN (cellsE fs es id cs k) (N + k * 1000)) := hen
    clear hls hen
    by_cases hlt : k < cs.length
    · have hltI : (k : Int) < (cs.length : Int) := by omega
      obtain ⟨g, off, rfl, hg, hc⟩ := (HCR.out _ HLS.out.tch) (by omega)
      obtain ⟨c0, c1⟩ := hc k hlt
      have HCC : Hid (∀ wx, Tch FP Wb wx → wx.cell? ⟨g, off + k * 2, none⟩ = some (.string (cat cs k).name)) := fun wx ht => by
        obtain ⟨g', off', e, _, hc'⟩ := (HCR.out wx ht) (by omega)
        cases e
        exact (hc' k hlt).1
      obtain ⟨hs0, hs1⟩ := HCL.out k hlt
      have HST : Hid (cellsE fs es id cs (k + 1) = cellE fs (cellsE fs es id cs k) id (cat cs k)) := rfl
      clear hc
      generalize cat cs k = cl at *
      obtain ⟨nm, tx⟩ := cl
      simp only at c0 c1 hs0 hs1 HST HCC
      generalize cellsE fs es id cs k = E1 at *
      go_wp2_with fail
      refine (l2Kind_any pf cf fs nm 1 wr (by decide) hfl (HF.out _ HLS.out.tch)).mono ?_
      rintro e w2 ⟨rfl, rfl⟩
      cases hkd : kindB fs nm 1 with
      | false =>
        have HE : Hid (cellsE fs es id cs (k + 1) = E1) := by unfold Hid; rw [HST.out]; unfold cellE; rw [hkd]; rfl
        have HEN2 : Hid (EntsN E1 (N + (k + 1) * 1000)) := HEN.out.mono (by omega)
        clear HST HEN c0 c1 b0 b1 b2
        go_wp2
        go_roundw
        case rel => exact ⟨k + 1, G1, C1, xs1, fps1, by omega, by go_num, by rw [HE.out], by rw [HE.out]; exact HLS.out, by rw [HE.out]; exact HEN2.out, hbx⟩
        case measure => simp [intOf]; omega
      | true =>
        have HE : Hid (cellsE fs es id cs (k + 1) = termsE E1 nm id (termsL tx) (termsL tx).length) := by unfold Hid; rw [HST.out]; unfold cellE; rw [hkd]; rfl
        have htl := termsL_few tx
        have HTS : Hid (∀ m, (tat (termsL tx) m).size ≤ 12) := tat_le tx
        clear HST
        go_wp2_with fail
        refine (termsS_any tx w2 (by omega)).mono ?_
        rintro e w3 ⟨v, rfl, ho, hb3⟩
        obtain ⟨pt, ct, rfl, hst, hptb⟩ := owns_strs ho
        have hs3 := hb3.size
        have HI : Hid (InT Wb B FP w3 G1 C1 xs1 E1 fps1 (N + k * 1000 + 0) w.heap.size #[.int .i64 id, .string key, .slice (some ⟨g, off, none⟩) cs.length cc] pt (termsL tx)) :=
          ⟨HLS.out.below hb3, HEN.out, hbx.below hb3 hbx.lt, hst, fun x e hm => by
            have h1 := (HLS.out.g.lt _ hm).2
            have h2 := hptb x e
            omega⟩
        clear HLS HEN ho hst hptb hbx hb3 b0 b1 b2 c0 c1
        generalize termsL tx = ts at *
        go_wp2
        rename World => wo
        go_loopw [1, 9] (fun lv i wr => ∃ (m G' C' : Nat) (xs' : List Value) (fps' : Nat → List Nat), m ≤ ts.length ∧ i = .int .i64 m ∧ lv = .slice (some ⟨G', 0, none⟩) (termsE E1 nm id ts m).length C' ∧ InT Wb B FP wr G' C' xs' (termsE E1 nm id ts m) fps' (N + k * 1000 + m) w.heap.size #[.int .i64 id, .string key, .slice (some ⟨g, off, none⟩) cs.length cc] pt ts) (fun _ i _ => ts.length - (intOf i).toNat)
        case atStart => exact ⟨0, G1, C1, xs1, fps1, Nat.zero_le _, rfl, rfl, HI.out⟩
        case round =>
          clear HI
          obtain ⟨m, G3, C3, xs3, fps3, hm, rfl, rfl, hin⟩ := hrel
          have HI : Hid (InT Wb B FP wr G3 C3 xs3 (termsE E1 nm id ts m) fps3 (N + k * 1000 + m) w.heap.size #[.int .i64 id, .string key, .slice (some ⟨g, off, none⟩) cs.length cc] pt ts) := hin
          have b0 := hin.b.cell 0
          have b1 := hin.b.cell 1
          have b2 := hin.b.cell 2
          simp at b0 b1 b2
          by_cases hlm : m < ts.length
          · have hlmI : (m : Int) < (ts.length : Int) := by omega
            obtain ⟨gt, rfl, hgt, htc⟩ := hin.t (by omega)
            have tc : wr.cell? ⟨gt, m, none⟩ = some (.string (tat ts m)) := htc m hlm
            have cc0 := HCC.out wr hin.l.tch
            have HSZ := HTS.out m
            have HT1 : Hid (termsE E1 nm id ts (m + 1) = wordAddIf (termsE E1 nm id ts m) nm (tat ts m) id m) := rfl
            clear hin htc
            generalize tat ts m = t at *
            generalize termsE E1 nm id ts m = E3 at *
            by_cases ht0 : t.size = 0
            · have n1 : t.toList.isEmpty = true := by rw [size_nil ht0, ByteArray.toList_eq]; rfl
              have HE3 : Hid (termsE E1 nm id ts (m + 1) = E3) := by unfold Hid; rw [HT1.out, wordAddIf_nil ht0]
              have HI2 : Hid (InT Wb B FP wr G3 C3 xs3 E3 fps3 (N + k * 1000 + (m + 1)) w.heap.size #[.int .i64 id, .string key, .slice (some ⟨g, off, none⟩) cs.length cc] (some ⟨gt, 0, none⟩) ts) := HI.out.mono (by omega)
              clear HI HT1 ht0
              go_wp2
              go_roundw
              case rel => exact ⟨m + 1, G3, C3, xs3, fps3, by omega, by go_num, by rw [HE3.out], by rw [HE3.out]; exact HI2.out⟩
              case measure => simp [intOf]; omega
            · have n1 : t.toList.isEmpty = false := nil_empty t ht0
              have HE3 : Hid (termsE E1 nm id ts (m + 1) = wordAdd E3 nm t id m) := by unfold Hid; rw [HT1.out, wordAddIf_not ht0]
              have HI2 : Hid (InT Wb B FP wr.drew G3 C3 xs3 E3 fps3 (N + k * 1000 + m) w.heap.size #[.int .i64 id, .string key, .slice (some ⟨g, off, none⟩) cs.length cc] (some ⟨gt, 0, none⟩) ts) := HI.out.drew
              have HEN4 : Hid (EntsN (wordAdd E3 nm t id m) (N + k * 1000 + m + 1)) := HI.out.n.add nm t id m (by omega) (by omega)
              have HWC : Hid (Calls Tryz.prog 115 #[.slice (some ⟨G3, 0, none⟩) E3.length C3, .string nm, .string t, .int .i64 id, .int .i64 m] wr.drew fun e w' => WordA (wordAdd E3 nm t id m) B (.slice (some ⟨G3, 0, none⟩) E3.length C3) fps3 E3.length wr.drew w' e) :=
                l4Word_any G3 C3 B xs3 E3 fps3 nm t id m wr.drew (by have h1 := HI2.out.l.g.row.lt G3 rfl; omega) (by have := HI.out.n.len; omega) (fun e he => (HI.out.n.el e he).1) (fun e he => ⟨by have := (HI.out.n.el e he).2.1; omega, fun p hp => by have := (HI.out.n.el e he).2.2.2.2 p hp; omega⟩) HI2.out.l.g
              clear HI HT1
              go_wp2
              refine wp_region_still_one 15 (by kernel_rfl) (by kernel_rfl) rfl ?_
              simp only [List.take_succ_cons, List.take_zero]
              repeat still_step
              refine wpStill_nil ?_
              refine oneK_want rfl ?_
              go_simp
              go_at_call 115
              refine HWC.out.mono ?_
              rintro e w5 ⟨G5, C5, xs5, fps5, rfl, hg5, hs5, ht5⟩
              have HI5 : Hid (InT Wb B FP w5 G5 C5 xs5 (wordAdd E3 nm t id m) fps5 (N + k * 1000 + m + 1) w.heap.size #[.int .i64 id, .string key, .slice (some ⟨g, off, none⟩) cs.length cc] (some ⟨gt, 0, none⟩) ts) := HI2.out.next HWL.out HFW.out (by omega) HEN4.out hg5 hs5 ht5
              clear HI2 HEN4 HWC hg5 hs5 ht5 tc cc0 b0 b1 b2
              unfold RestK
              simp only [List.drop_succ_cons, List.drop_zero]
              repeat (go_big_quiet_step (fail))
              refine wpQuiet_nil ?_
              intro _ hw'
              obtain ⟨nq, hw''⟩ := hw'
              subst hw''
              go_wp2
              go_roundw
              case rel => exact ⟨m + 1, G5, C5, xs5, fps5, by omega, by go_num, by rw [HE3.out], by rw [HE3.out]; exact HI5.out.drewN _⟩
              case measure => simp [intOf]; omega
          · have hml : m = ts.length := by omega
            subst hml
            have hbx2 := hin.b
            have HLS : Hid (LSt Wb B FP wr G3 C3 xs3 (termsE E1 nm id ts ts.length) fps3) := hin.l
            have HEN : Hid (EntsN (termsE E1 nm id ts ts.length) (N + (k + 1) * 1000)) := hin.n.mono (by omega)
            clear HI hin
            go_wp2
            go_roundw
            case rel => exact ⟨k + 1, G3, C3, xs3, fps3, by omega, by go_num, by rw [HE.out], by rw [HE.out]; exact HLS.out, by rw [HE.out]; exact HEN.out, hbx2⟩
            case measure => simp [intOf]; omega
    · have hkl : k = cs.length := by omega
      subst hkl
      have HEN2 : Hid (EntsN (cellsE fs es id cs cs.length) (N + 10000)) := HEN.out.mono (by omega)
      clear HCR HF HEN
      go_wp2
      go_ret
      exact ⟨HPOST.out _ _ _ _ _ HLS.out, HEN2.out⟩
def MadeA (es : List Ent) (w w' : World) (e : Ending) : Prop := ∃ G C xs fps, e = .returned (.slice (some ⟨G, 0, none⟩) es.length C) ∧ GRow entEl w' w.heap.size (.slice (some ⟨G, 0, none⟩) es.length C) xs es fps ∧ Below w.heap.size w w'
theorem cellsE_all (fs : List Fld) (rs : List Rw) (k : Nat) : rowsE fs rs (k + 1) = cellsE fs (rowsE fs rs k) (rat rs k).id (rat rs k).cells (rat rs k).cells.length := rfl
set_option maxRecDepth 100000 in
set_option maxHeartbeats 4000000 in
theorem l4Made_any (pf : Option Addr) (cf : Nat) (fs : List Fld) (pr : Option Addr) (cr : Nat) (rs : List Rw) (w : World) (hfl : fs.length ≤ 1048576) (hf : FldRow w pf fs) (hrl : RwsL rs) (hr : RwRow w pr rs) :
    Calls Tryz.prog 45 #[.slice pf fs.length cf, .slice pr rs.length cr] w fun e w' => MadeA (madeE fs rs) w w' e ∧ EntsN (madeE fs rs) 1000000 := by
  have HF : Hid (∀ wx, Below w.heap.size w wx → FldRow wx pf fs) := fun wx h => hf.below h
  have HR : Hid (∀ wx, Below w.heap.size w wx → RwRow wx pr rs) := fun wx h => hr.below h
  have HRL : Hid (∀ r ∈ rs, CelsL r.cells) := hrl.2
  have hrn := hrl.1
  have hb0 : Below w.heap.size w (w.alloc (.cells #[] 99)) := (Below.refl _ w).alloc (Nat.le_refl _) _
  have HG0 : Hid (GRow entEl (w.alloc (.cells #[] 99)) w.heap.size (.slice (some ⟨w.heap.size, 0, none⟩) (rowsE fs rs 0).length 0) [] (rowsE fs rs 0) (fun _ => [])) := by
    refine .make (World.ownsRow_lit w #[] 0 (Nat.le_refl _) (by decide) rfl) (fun i a h => by cases h) (fun i j hi => ?_) (fun g hg i hi => ?_)
    · exact absurd hi (Nat.not_lt_zero _)
    · exact absurd hi (Nat.not_lt_zero _)
  have HE0 : Hid (EntsN (rowsE fs rs 0) 0) := ⟨Nat.le_refl _, fun e he => by cases he⟩
  clear hf hr hrl
  go_enter Tryz.func45, Tryz.ntmps45
  go_wp2
  go_loopw [5, 6] (fun lv i wr => ∃ (k G C : Nat) (xs : List Value) (fps : Nat → List Nat), k ≤ rs.length ∧ i = .int .i64 k ∧ lv = .slice (some ⟨G, 0, none⟩) (rowsE fs rs k).length C ∧ GRow entEl wr w.heap.size (.slice (some ⟨G, 0, none⟩) (rowsE fs rs k).length C) xs (rowsE fs rs k) fps ∧ EntsN (rowsE fs rs k) (k * 10000) ∧ Below w.heap.size w wr) (fun _ i _ => rs.length - (intOf i).toNat)
  case atStart => exact ⟨0, w.heap.size, 0, [], _, Nat.zero_le _, rfl, rfl, HG0.out, by simpa using HE0.out, hb0⟩
  case round =>
    clear HG0 HE0 hb0
    obtain ⟨k, G, C, xs, fps, hk, rfl, rfl, hg, hen, hbel⟩ := hrel
    have HG : Hid (GRow entEl wr w.heap.size (.slice (some ⟨G, 0, none⟩) (rowsE fs rs k).length C) xs (rowsE fs rs k) fps) := hg
    have HEN : Hid (EntsN (rowsE fs rs k) (k * 10000)) := hen
    clear hg hen
    by_cases hlt : k < rs.length
    · have hltI : (k : Int) < (rs.length : Int) := by omega
      obtain ⟨gr, off, rfl, hgr, hc⟩ := (HR.out w (Below.refl _ _)) (by omega)
      obtain ⟨q, c, c0', c1', c2', hcl, hcel⟩ := hc k rs[k] (List.getElem?_eq_getElem hlt)
      have c0 := (hbel.cell (p := ⟨gr, off + k * 3, none⟩) hgr).trans c0'
      have c1 := (hbel.cell (p := ⟨gr, off + k * 3 + 1, none⟩) hgr).trans c1'
      have c2 := (hbel.cell (p := ⟨gr, off + k * 3 + 2, none⟩) hgr).trans c2'
      have HST : Hid (rowsE fs rs (k + 1) = cellsE fs (rowsE fs rs k) rs[k].id rs[k].cells rs[k].cells.length) := by unfold Hid; rw [cellsE_all, rat_get rs k hlt]
      have HCR : Hid (∀ wx, Below w.heap.size wr wx → CelRow wx q rs[k].cells) := fun wx hb => hcel.below (hbel.trans hb)
      have HCC : Hid (CelsL rs[k].cells) := HRL.out _ (List.getElem_mem hlt)
      have HFW : Hid (∀ wx, Below w.heap.size wr wx → FldRow wx pf fs) := fun wx hb => HF.out wx (hbel.trans hb)
      clear hc hcel c0' c1' c2'
      generalize rs[k] = x at *
      obtain ⟨id, key, cs⟩ := x
      simp only at c0 c1 c2 hcl HST HCR HCC
      generalize rowsE fs rs k = E at *
      go_wp2_with fail
      refine (l4Doc_any pf cf fs G C w.heap.size (k * 10000) xs E fps id key q c cs wr hbel.size hfl HFW.out HCC.out HCR.out HEN.out (by omega) HG.out).mono ?_
      rintro e w2 ⟨⟨G2, C2, xs2, fps2, rfl, hg2, hs2, ht2⟩, hen2⟩
      have HG2 : Hid (GRow entEl w2 w.heap.size (.slice (some ⟨G2, 0, none⟩) (cellsE fs E id cs cs.length).length C2) xs2 (cellsE fs E id cs cs.length) fps2) := hg2
      have hb2 : Below w.heap.size w w2 := hbel.trans (ht2.below (fun b hb => (HG.out.lt b hb).1) hbel.size)
      have HEN2 : Hid (EntsN (cellsE fs E id cs cs.length) ((k + 1) * 10000)) := hen2.mono (by omega)
      clear HG HEN hg2 hs2 ht2 hen2 HCR HCC HFW c0 c1 c2
      go_wp2
      go_roundw
      case rel => exact ⟨k + 1, G2, C2, xs2, fps2, by omega, by go_num, by rw [HST.out], by rw [HST.out]; exact HG2.out, by rw [HST.out]; exact HEN2.out, hb2⟩
      case measure => simp [intOf]; omega
    · have hkl : k = rs.length := by omega
      subst hkl
      have HFIN : Hid (MadeA (madeE fs rs) w wr (.returned (.slice (some ⟨G, 0, none⟩) (rowsE fs rs rs.length).length C)) ∧ EntsN (madeE fs rs) 1000000) := ⟨⟨G, C, xs, fps, rfl, HG.out, hbel⟩, HEN.out.mono (by omega)⟩
      clear HF HR HRL HG HEN
      go_wp2
      go_ret
      exact HFIN.out
end Go.Proofs.YtbifagdcnpnpjaaGreat
