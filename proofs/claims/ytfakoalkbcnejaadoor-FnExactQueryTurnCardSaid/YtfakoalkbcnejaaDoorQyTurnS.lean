/- The walk of spec.l5Turn. -/
import Derived.Test.YtfakoalkbcnejaaDoorQyOwnS2
import Derived.Test.YtfakoalkbcnejaaDoorQyTurnI
namespace Go.Proofs.YtfakoalkbcnejaaDoor
open Go.RowKit
set_option linter.unusedVariables false

theorem QAv.mono {w : World} {S : Nat → Prop} : ∀ {d : Nat} {a : Option Addr} {ps : List Qy}, QAv w S d a ps → QAv w S (d + 1) a ps
  | 0, _, ps, h => fun hp => by
    have e : ps = [] := h
    rw [e] at hp
    exact absurd hp (by simp)
  | d + 1, a, ps, h => fun hp => by
    obtain ⟨g, off, e, h1, h2, hc⟩ := h hp
    refine ⟨g, off, e, h1, h2, fun i hi => ?_⟩
    obtain ⟨p, c, hq, hr⟩ := hc i hi
    exact ⟨p, c, hq, QAv.mono hr⟩
theorem QAv.drew {w : World} {S : Nat → Prop} {d : Nat} {a : Option Addr} {ps : List Qy} (h : QAv w S d a ps) : QAv w.drew S d a ps := QAv.of (w := w) (w' := w.drew) (Nat.le_refl _) (fun b hs _ => ⟨rfl, hs⟩) h
theorem avs {w : World} {S : Nat → Prop} {d : Nat} {a : Option Addr} {ps : List Qy} (h : QAv w S d a ps) {x : Addr} (hx : ¬ S x.block) (v : Value) : QAv (w.setCell x v) S d a ps := h.of (by simp [World.setCell]) fun b hs _ => ⟨Below.heap_setCell _ _ _ _ (fun e => hx (e ▸ hs)), hs⟩
theorem av_one {w : World} {S : Nat → Prop} {d c : Nat} {p : Option Addr} {q : Qy} (h : QAv w S d p q.parts) : QAv (w.alloc (.cells #[.int .i64 q.kind, .string q.field, .string q.text, .int .i64 q.low, .int .i64 q.high, .slice p q.parts.length c] 29)) (fun b => S b ∨ w.heap.size ≤ b) (d + 1) (some ⟨w.heap.size, 0, none⟩) [q] := fun _ => by
  refine ⟨w.heap.size, 0, rfl, .inr (Nat.le_refl _), by simp, fun i hi => ?_⟩
  obtain rfl : i = 0 := by simpa using hi
  have B := Blk.new w #[.int .i64 q.kind, .string q.field, .string q.text, .int .i64 q.low, .int .i64 q.high, .slice p q.parts.length c] 29
  refine ⟨p, c, ⟨B.cell 0, B.cell 1, B.cell 2, B.cell 3, B.cell 4, B.cell 5⟩, ?_⟩
  have hA : Below w.heap.size w (w.alloc (.cells #[.int .i64 q.kind, .string q.field, .string q.text, .int .i64 q.low, .int .i64 q.high, .slice p q.parts.length c] 29)) := (Below.refl _ _).alloc (Nat.le_refl _) _
  exact h.of hA.size fun b hs hlt => ⟨hA.block b hlt, .inl hs⟩
/-- spec.l5Turn at trees whose parts are at most D deep. -/
def TurnS (D : Nat) : Prop := ∀ (L d : Nat) (k : Int) (f t : ByteArray) (lo hi : Int) (ps : List Qy) (a : Option Addr) (c : Nat) (w : World), qformB d (.mk k f t lo hi ps) = true → QAv w (fun b => b < L) D a ps → L ≤ w.heap.size → QSz 1048576 D ps →
  Calls Tryd.prog 51 #[.agg #[.int .i64 k, .string f, .string t, .int .i64 lo, .int .i64 hi, .slice a ps.length c]] w fun e w' => ∃ p' c', e = .returned (.agg #[.int .i64 (turnQ D (.mk k f t lo hi ps)).kind, .string (turnQ D (.mk k f t lo hi ps)).field, .string (turnQ D (.mk k f t lo hi ps)).text, .int .i64 (turnQ D (.mk k f t lo hi ps)).low, .int .i64 (turnQ D (.mk k f t lo hi ps)).high, .slice p' (turnQ D (.mk k f t lo hi ps)).parts.length c']) ∧ QAv w' (fun b => b < L ∨ w.heap.size ≤ b) (D + 1) p' (turnQ D (.mk k f t lo hi ps)).parts ∧ Below w.heap.size w w'
set_option maxRecDepth 100000 in
set_option maxHeartbeats 8000000 in
theorem turnS_of {D : Nat} (hF : ∀ D', D = D' + 1 → TurnS D') : TurnS D := by
  intro L d k f t lo hi ps a c w hfm ha hL hsz
  obtain ⟨i0, hi0, hz0, hz1, hz2⟩ := info_parts infoQy
  have hb1 : Below w.heap.size w (w.alloc (.cells #[.int .i64 k, .string f, .string t, .int .i64 lo, .int .i64 hi, .slice a ps.length c] 29)) := (Below.refl _ w).alloc (Nat.le_refl _) _
  have hb2 := hb1.alloc hb1.size (.cells #[.int .i64 0, .string ⟨#[]⟩, .string ⟨#[]⟩, .int .i64 0, .int .i64 0, .slice none 0 0] 29)
  have BO := (Blk.new w #[.int .i64 k, .string f, .string t, .int .i64 lo, .int .i64 hi, .slice a ps.length c] 29).alloc (.cells #[.int .i64 0, .string ⟨#[]⟩, .string ⟨#[]⟩, .int .i64 0, .int .i64 0, .slice none 0 0] 29)
  have BZ := Blk.new (w.alloc (.cells #[.int .i64 k, .string f, .string t, .int .i64 lo, .int .i64 hi, .slice a ps.length c] 29)) #[.int .i64 0, .string ⟨#[]⟩, .string ⟨#[]⟩, .int .i64 0, .int .i64 0, .slice none 0 0] 29
  rw [show (w.alloc (.cells #[.int .i64 k, .string f, .string t, .int .i64 lo, .int .i64 hi, .slice a ps.length c] 29)).heap.size = w.heap.size + 1 by simp] at BZ
  have hs2 : ((w.alloc (.cells #[.int .i64 k, .string f, .string t, .int .i64 lo, .int .i64 hi, .slice a ps.length c] 29)).alloc (.cells #[.int .i64 0, .string ⟨#[]⟩, .string ⟨#[]⟩, .int .i64 0, .int .i64 0, .slice none 0 0] 29)).heap.size = w.heap.size + 2 := by simp
  obtain ⟨w2, hw2⟩ : ∃ w2, (w.alloc (.cells #[.int .i64 k, .string f, .string t, .int .i64 lo, .int .i64 hi, .slice a ps.length c] 29)).alloc (.cells #[.int .i64 0, .string ⟨#[]⟩, .string ⟨#[]⟩, .int .i64 0, .int .i64 0, .slice none 0 0] 29) = w2 := ⟨_, rfl⟩
  have HW2 : Hid ((w.alloc (.cells #[.int .i64 k, .string f, .string t, .int .i64 lo, .int .i64 hi, .slice a ps.length c] 29)).alloc (.cells #[.int .i64 0, .string ⟨#[]⟩, .string ⟨#[]⟩, .int .i64 0, .int .i64 0, .slice none 0 0] 29) = w2) := hw2
  rw [hw2] at hb2 BO BZ hs2
  have HB2 : Hid (Below w.heap.size w w2) := hb2
  have HBO2 : Hid (Blk w2 w.heap.size #[.int .i64 k, .string f, .string t, .int .i64 lo, .int .i64 hi, .slice a ps.length c] 29) := BO
  have HBZ2 : Hid (Blk w2 (w.heap.size + 1) #[.int .i64 0, .string ⟨#[]⟩, .string ⟨#[]⟩, .int .i64 0, .int .i64 0, .slice none 0 0] 29) := BZ
  have HA : Hid (∀ wx, Below w.heap.size w wx → QAv wx (fun b => b < L) D a ps) := fun wx h => ha.of h.size fun b hs hlt => ⟨h.block b hlt, hs⟩
  have HF : Hid (∀ D', D = D' + 1 → TurnS D') := hF
  have HS : Hid (QSz 1048576 D ps) := hsz
  have HFM : Hid (qformB d (.mk k f t lo hi ps) = true) := hfm
  have y0 := BO.cell 0
  have y1 := BO.cell 1
  have y2 := BO.cell 2
  have y3 := BO.cell 3
  have y4 := BO.cell 4
  have y5 := BO.cell 5
  simp at y0 y1 y2 y3 y4 y5
  have hz := hsz.len
  have z0 := BZ.cell 0
  have z1 := BZ.cell 1
  have z2 := BZ.cell 2
  have z3 := BZ.cell 3
  have z4 := BZ.cell 4
  have z5 := BZ.cell 5
  have f0 := BZ.frozen 0
  have f1 := BZ.frozen 1
  have f2 := BZ.frozen 2
  have f3 := BZ.frozen 3
  have f4 := BZ.frozen 4
  have f5 := BZ.frozen 5
  simp at z0 z1 z2 z3 z4 z5
  clear ha hsz hF hw2 hb1 hb2 BO BZ hfm
  by_cases h9 : k = 9
  · subst h9
    have HE : Hid (turnQ D (.mk 9 f t lo hi ps) = qat ps 0) := turn_9 D f t lo hi ps
    have hn1 := form_not HFM.out
    rw [HE.out]
    obtain ⟨D', hD⟩ : ∃ D', D = D' + 1 := by
      cases D with
      | zero =>
        have e : ps = [] := HS.out
        rw [e] at hn1
        cases hn1
      | succ D' => exact ⟨D', rfl⟩
    subst hD
    obtain ⟨g, off, rfl, hgL, hg, hc⟩ := (HA.out w2 HB2.out) (by omega)
    obtain ⟨p, c', ⟨c0, c1, c2, c3, c4, c5⟩, hq⟩ := hc 0 (by omega)
    have hnl : (0 : Int) < (ps.length : Int) := by omega
    have hnl2 : 0 < ps.length := by omega
    have HQ : Hid (QAv w2 (fun b => b < L) D' p (qat ps 0).parts) := hq
    generalize qat ps 0 = q at *
    obtain ⟨kd, f', t', lo', hi', pp⟩ := q
    simp only [Qy.kind, Qy.field, Qy.text, Qy.low, Qy.high, Qy.parts] at c0 c1 c2 c3 c4 c5 ⊢
    simp only [Nat.zero_mul, Nat.add_zero] at c0 c1 c2 c3 c4 c5
    clear hc hq HE HF HS HFM HA hn1
    go_enter Tryd.func51, Tryd.ntmps51
    go_upto_region 1 with fail
    rw [HW2.out]
    clear HW2
    go_wp2
    refine bodyPost_ret (v := .agg #[.int .i64 kd, .string f', .string t', .int .i64 lo', .int .i64 hi', .slice p pp.length c']) (by simp [results, Tryd.results51, go_sem, z0, z1, z2, z3, z4, z5]) rfl ⟨p, c', rfl, ?_, ?_⟩
    · exact (avs (avs (avs (avs (avs (avs HQ.out (x := ⟨w.heap.size + 1, 0, none⟩) (by show ¬ (w.heap.size + 1 < L); omega) _) (x := ⟨w.heap.size + 1, 1, none⟩) (by show ¬ (w.heap.size + 1 < L); omega) _) (x := ⟨w.heap.size + 1, 2, none⟩) (by show ¬ (w.heap.size + 1 < L); omega) _) (x := ⟨w.heap.size + 1, 3, none⟩) (by show ¬ (w.heap.size + 1 < L); omega) _) (x := ⟨w.heap.size + 1, 4, none⟩) (by show ¬ (w.heap.size + 1 < L); omega) _) (x := ⟨w.heap.size + 1, 5, none⟩) (by show ¬ (w.heap.size + 1 < L); omega) _).mono.mono.of (Nat.le_refl _) fun b hs _ => ⟨rfl, .inl hs⟩
    · exact ((((((HB2.out.setCell (by simp) _).setCell (by simp) _).setCell (by simp) _).setCell (by simp) _).setCell (by simp) _).setCell (by simp) _)
  have h9b : (k == 9) = false := beq_eq_false_iff_ne.2 h9
  by_cases h78 : k = 7 ∨ k = 8
  · have HE : Hid (turnQ D (.mk k f t lo hi ps) = .mk (15 - k) ⟨#[]⟩ ⟨#[]⟩ 0 0 (turnT D ps)) := turn_78 D f t lo hi ps h78
    rw [HE.out]
    clear HE
    obtain ⟨rs, hrs0⟩ : ∃ rs, turnT D ps = rs := ⟨_, rfl⟩
    rw [hrs0]
    have HRS : Hid (turnT D ps = rs) := hrs0
    clear hrs0
    rcases h78 with rfl | rfl
    · have hb3 := HB2.out.alloc HB2.out.size (.cells #[.int .i64 8, .string ⟨#[]⟩, .string ⟨#[]⟩, .int .i64 0, .int .i64 0, .slice none 0 0] 29)
      have BO := HBO2.out.alloc (.cells #[.int .i64 8, .string ⟨#[]⟩, .string ⟨#[]⟩, .int .i64 0, .int .i64 0, .slice none 0 0] 29)
      have BZ := HBZ2.out.alloc (.cells #[.int .i64 8, .string ⟨#[]⟩, .string ⟨#[]⟩, .int .i64 0, .int .i64 0, .slice none 0 0] 29)
      have BX := Blk.new w2 #[.int .i64 8, .string ⟨#[]⟩, .string ⟨#[]⟩, .int .i64 0, .int .i64 0, .slice none 0 0] 29
      rw [hs2] at BX
      have hs3 : (w2.alloc (.cells #[.int .i64 8, .string ⟨#[]⟩, .string ⟨#[]⟩, .int .i64 0, .int .i64 0, .slice none 0 0] 29)).heap.size = w.heap.size + 3 := by rw [World.size_alloc, hs2]
      clear HBO2 HBZ2 HB2 z0 z1 z2 z3 z4 z5 f0 f1 f2 f3 f4 f5
      go_enter Tryd.func51, Tryd.ntmps51
      go_upto_region 1 with fail
      rw [HW2.out]
      clear HW2
      go_wp2
      generalize w2.alloc (.cells #[.int .i64 8, .string ⟨#[]⟩, .string ⟨#[]⟩, .int .i64 0, .int .i64 0, .slice none 0 0] 29) = w3 at *
      have HBO : Hid (∀ wx, Below (w.heap.size + 2) w3 wx → Blk wx w.heap.size #[.int .i64 7, .string f, .string t, .int .i64 lo, .int .i64 hi, .slice a ps.length c] 29) := fun wx h => BO.below h (by omega)
      have HBZ : Hid (∀ wx, Below (w.heap.size + 2) w3 wx → Blk wx (w.heap.size + 1) #[.int .i64 0, .string ⟨#[]⟩, .string ⟨#[]⟩, .int .i64 0, .int .i64 0, .slice none 0 0] 29) := fun wx h => BZ.below h (by omega)
      have HB3 : Hid (Below w.heap.size w w3) := hb3
      clear BO BZ hb3 y0 y1 y2 y3 y4 y5 hs2
      go_loopw [4] (fun i wr => ∃ (j : Nat) (v : Value) (xs : List Value), j ≤ ps.length ∧ i = .int .i64 j ∧ Below (w.heap.size + 2) w3 wr ∧ Blk wr (w.heap.size + 2) #[.int .i64 8, .string ⟨#[]⟩, .string ⟨#[]⟩, .int .i64 0, .int .i64 0, v] 29 ∧ VList wr (fun b => b < L ∨ w.heap.size + 3 ≤ b) (w.heap.size + 3) D v xs ((List.range j).map fun i => turnQ (D - 1) (qat ps i))) (fun i _ => ps.length - (intOf i).toNat)
      case atStart => exact ⟨0, _, [], Nat.zero_le _, rfl, Below.refl _ _, BX, VList.nil _ _ _ _⟩
      case round =>
        clear BX
        obtain ⟨j, v, xs, hj, rfl, hbel, hbx, hvl⟩ := hrel
        have HWR : Hid (Below w.heap.size w wr) := HB3.out.trans ⟨hbel.os, hbel.tape, hbel.output, hbel.size, fun b hb => hbel.block b (by omega)⟩
        have BR := HBO.out wr hbel
        have b5 := BR.cell 5
        have hltx : w.heap.size + 2 < wr.heap.size := hbx.lt
        simp at b5
        by_cases hlt : j < ps.length
        · have hji : (j : Int) < (ps.length : Int) := by omega
          obtain ⟨d1, hD⟩ : ∃ d1, D = d1 + 1 := by
            cases D with
            | zero =>
              have e : ps = [] := HS.out
              rw [e] at hlt
              exact absurd hlt (by simp)
            | succ d1 => exact ⟨d1, rfl⟩
          have HF' : Hid (TurnS d1) := HF.out d1 hD
          subst hD
          obtain ⟨dj, _, hfj⟩ := form_part HFM.out (i := j) hlt
          obtain ⟨g, off, rfl, hgL, hg, hc⟩ := (HA.out wr HWR.out) (by omega)
          obtain ⟨p, c', ⟨c0, c1, c2, c3, c4, c5⟩, hq⟩ := hc j hlt
          obtain ⟨s1, s2, s3⟩ := HS.out.2 j hlt
          have HSN : Hid ((List.range (j + 1)).map (fun i => turnQ d1 (qat ps i)) = (List.range j).map (fun i => turnQ d1 (qat ps i)) ++ [turnQ d1 (qat ps j)]) := by unfold Hid; rw [List.range_succ, List.map_append]; rfl
          have hlj : ((List.range j).map (fun i => turnQ d1 (qat ps i))).length = j := by simp
          have HVL : Hid (VList wr (fun b => b < L ∨ w.heap.size + 3 ≤ b) (w.heap.size + 3) (d1 + 1) v xs ((List.range j).map fun i => turnQ d1 (qat ps i))) := hvl
          have HBX : Hid (Blk wr (w.heap.size + 2) #[.int .i64 8, .string ⟨#[]⟩, .string ⟨#[]⟩, .int .i64 0, .int .i64 0, v] 29) := hbx
          have HBE : Hid (Below (w.heap.size + 2) w3 wr) := hbel
          have x5 := hbx.cell 5
          simp at x5
          have HLQ : Hid (((List.range j).map (fun i => turnQ d1 (qat ps i))).length ≤ 1048576) := by unfold Hid; omega
          have hLr : L ≤ wr.heap.size := by omega
          have hcl := fun wx h1 h2 => HF'.out L dj (qat ps j).kind (qat ps j).field (qat ps j).text (qat ps j).low (qat ps j).high (qat ps j).parts p c' wx (by rw [Qy.eta]; exact hfj) h1 h2 s3
          rw [Qy.eta] at hcl
          generalize (List.range j).map (fun i => turnQ d1 (qat ps i)) = qs at *
          generalize turnQ d1 (qat ps j) = q2 at *
          generalize qat ps j = q at *
          obtain ⟨k1, f1, t1, lo1, hi1, p1⟩ := q
          obtain ⟨kd, f', t', lo', hi', pp⟩ := q2
          simp only [Qy.kind, Qy.field, Qy.text, Qy.low, Qy.high, Qy.parts] at c0 c1 c2 c3 c4 c5 hq s3 hcl
          have hqd := hq.drew
          have HCL : Hid (∀ wx, QAv wx (fun b => b < L) d1 p p1 → L ≤ wx.heap.size → Calls Tryd.prog 51 #[.agg #[.int .i64 k1, .string f1, .string t1, .int .i64 lo1, .int .i64 hi1, .slice p p1.length c']] wx fun e w' => ∃ p' c2, e = .returned (.agg #[.int .i64 kd, .string f', .string t', .int .i64 lo', .int .i64 hi', .slice p' pp.length c2]) ∧ QAv w' (fun b => b < L ∨ wx.heap.size ≤ b) (d1 + 1) p' pp ∧ Below wx.heap.size wx w') := hcl
          clear hc hvl hbx hbel BR hq s1 s2 s3 hlj HF HF' HA HS hcl hfj
          have HT2 : Hid (∀ p2 cc2, ∀ u ∈ [Value.int .i64 kd, .string f', .string t', .int .i64 lo', .int .i64 hi', .slice p2 pp.length cc2], u.oneCell' = true) := fun p2 cc2 => six_one (.mk kd f' t' lo' hi' pp) p2 cc2
          have HT6 : Hid (qs.length + 1 ≤ maxLen) := by have := HLQ.out; unfold Hid maxLen; omega
          have HT4 : Hid ((qs.length + 1) * 80 ≤ 140737488355328) := by have := HLQ.out; unfold Hid; omega
          go_wp2
          go_region_law (first
            | (go_simp; go_at_call 51; refine (HCL.out _ (by exact hqd) (by exact hLr)).mono ?_; rintro e wq ⟨p2, cc2, rfl, hq2, hb2d⟩; have hb2 : Below wr.heap.size wr wq := ⟨hb2d.os, hb2d.tape, hb2d.output, hb2d.size, hb2d.block⟩; have hbx2 := HBX.out.below hb2 hltx; have k52 := hbx2.cell 5; have l2 := hbx2.lt; have HVL2 := HVL.out.below hb2; simp at k52; clear hb2d)
            | (refine step_append_lies _ (by rfl) _ _ 27 (by rfl) (w.heap.size + 3) 29 i0 (.agg #[.int .i64 0, .string ⟨#[]⟩, .string ⟨#[]⟩, .int .i64 0, .int .i64 0, .slice none 0 0]) 6 80 Tryd.underlying27 hi0 hz0 hz1 hz2 rfl (by decide) v qs.length xs (by rfl) (HVL2.row.alloc _) ⟨wq.heap.size, 0, none⟩ 1 1 [.int .i64 kd, .string f', .string t', .int .i64 lo', .int .i64 hi', .slice p2 pp.length cc2] (by rfl) rfl (cells_new _ _ _) (HT2.out p2 cc2) (by omega) HT6.out HT4.out (by simp; omega) (wq.heap.size + 1) (by simp) ?_; intro g6 c6 w6 hown' hgrow hat hlt6; have hbx6 := (hbx2.alloc (.cells #[.int .i64 kd, .string f', .string t', .int .i64 lo', .int .i64 hi', .slice p2 pp.length cc2] 29)).grown hgrow (fun e => by have := (HVL2.row.lt _ e.symm).1; omega); have k6 := hbx6.cell 5; have y6 := hbx6.frozen 5; simp at k6))
          all_goals
            have hA : Below wq.heap.size wq (wq.alloc (.cells #[.int .i64 kd, .string f', .string t', .int .i64 lo', .int .i64 hi', .slice p2 pp.length cc2] 29)) := (Below.refl _ _).alloc (Nat.le_refl _) _
            have hb2A : Below wr.heap.size wr (wq.alloc (.cells #[.int .i64 kd, .string f', .string t', .int .i64 lo', .int .i64 hi', .slice p2 pp.length cc2] 29)) := hb2.trans (hA.mono hb2.size)
            have hq2A : QAv (wq.alloc (.cells #[.int .i64 kd, .string f', .string t', .int .i64 lo', .int .i64 hi', .slice p2 pp.length cc2] 29)) (fun b => b < L ∨ wr.heap.size ≤ b) (d1 + 1) p2 (Qy.mk kd f' t' lo' hi' pp).parts := QAv.of hA.size (fun b hs hlt => ⟨hA.block b hlt, hs⟩) hq2
            have hvlt : ∀ b, v.ownBlock = some b → w.heap.size + 3 ≤ b ∧ b < wr.heap.size := fun b e => HVL.out.row.lt b e
            have HN6 : VList w6 (fun b => b < L ∨ w.heap.size + 3 ≤ b) (w.heap.size + 3) (d1 + 1) (.slice (some ⟨g6, 0, none⟩) (qs.length + 1) c6) (xs ++ qVal (.mk kd f' t' lo' hi' pp) p2 cc2) (qs ++ [.mk kd f' t' lo' hi' pp]) := HVL.out.snoc hb2A hq2A (fun b hb => ⟨hb.elim .inl (fun h => .inr (by omega)), fun e => by have := hvlt b e; rcases hb with hb | hb <;> omega⟩) hown' hgrow (by
              rcases hat with e | e
              · exact .inl e.symm
              · refine .inr ?_
                rw [e, World.size_alloc]
                rfl)
            have HN : Hid (VList (w6.setCell ⟨w.heap.size + 2, 5, none⟩ (.slice (some ⟨g6, 0, none⟩) (qs.length + 1) c6)) (fun b => b < L ∨ w.heap.size + 3 ≤ b) (w.heap.size + 3) (d1 + 1) (.slice (some ⟨g6, 0, none⟩) (qs.length + 1) c6) (xs ++ qVal (.mk kd f' t' lo' hi' pp) p2 cc2) (qs ++ [.mk kd f' t' lo' hi' pp])) := HN6.set (by show ¬ (w.heap.size + 2 < L ∨ w.heap.size + 3 ≤ w.heap.size + 2); omega) (by show w.heap.size + 2 < w.heap.size + 3; omega) _
            have HBN : Hid (Blk (w6.setCell ⟨w.heap.size + 2, 5, none⟩ (.slice (some ⟨g6, 0, none⟩) (qs.length + 1) c6)) (w.heap.size + 2) #[.int .i64 8, .string ⟨#[]⟩, .string ⟨#[]⟩, .int .i64 0, .int .i64 0, .slice (some ⟨g6, 0, none⟩) (qs.length + 1) c6] 29) := hbx6.set 5 _
            have hwA : Below (w.heap.size + 2) w3 (wq.alloc (.cells #[.int .i64 kd, .string f', .string t', .int .i64 lo', .int .i64 hi', .slice p2 pp.length cc2] 29)) := HBE.out.trans ⟨hb2A.os, hb2A.tape, hb2A.output, hb2A.size, fun b hb => hb2A.block b (by omega)⟩
            have HWN : Hid (Below (w.heap.size + 2) w3 (w6.setCell ⟨w.heap.size + 2, 5, none⟩ (.slice (some ⟨g6, 0, none⟩) (qs.length + 1) c6))) := (hwA.grown hgrow (by have := hA.size; have := hb2.size; omega) (fun b e => by have := hvlt b e; omega)).setCell (Nat.le_refl _) _
            clear hA hb2A hq2A hvlt HN6 hwA hown' hgrow hat hbx6 hbx2 HVL2 hb2 hq2 k52 k6 y6 HVL HBX HBE HCL HT2 HT6 HT4 hqd x5 b5 c0 c1 c2 c3 c4 c5
            go_wp2
            go_roundw
            case rel => exact ⟨j + 1, _, _, by omega, by go_num, HWN.out, HBN.out, by rw [Nat.add_sub_cancel, HSN.out]; exact HN.out⟩
            case measure => simp [intOf]; omega
        · have hjl : j = ps.length := by omega
          subst hjl
          have hrs : (List.range ps.length).map (fun i => turnQ (D - 1) (qat ps i)) = turnT D ps := by
            cases D with
            | zero =>
              have e : ps = [] := HS.out
              subst e
              rfl
            | succ d1 => rfl
          rw [hrs, HRS.out] at hvl
          obtain ⟨p', c2, hv, hav⟩ := hvl.av (fun b hb => .inr hb)
          subst hv
          have HQ : Hid (QAv wr (fun b => b < L ∨ w.heap.size + 3 ≤ b) (D + 1) p' rs) := hav
          have BZR := HBZ.out wr hbel
          have x0 := hbx.cell 0
          have x1 := hbx.cell 1
          have x2 := hbx.cell 2
          have x3 := hbx.cell 3
          have x4 := hbx.cell 4
          have x5 := hbx.cell 5
          have z0 := BZR.cell 0
          have z1 := BZR.cell 1
          have z2 := BZR.cell 2
          have z3 := BZR.cell 3
          have z4 := BZR.cell 4
          have z5 := BZR.cell 5
          have f0 := BZR.frozen 0
          have f1 := BZR.frozen 1
          have f2 := BZR.frozen 2
          have f3 := BZR.frozen 3
          have f4 := BZR.frozen 4
          have f5 := BZR.frozen 5
          simp at x0 x1 x2 x3 x4 x5 z0 z1 z2 z3 z4 z5
          clear hvl hav BZR BR hbx hbel HA HF HS HBO HBZ
          go_wp2
          refine bodyPost_ret (v := .agg #[.int .i64 8, .string ⟨#[]⟩, .string ⟨#[]⟩, .int .i64 0, .int .i64 0, .slice p' rs.length c2]) (by simp [results, Tryd.results51, go_sem, z0, z1, z2, z3, z4, z5]) rfl ⟨p', c2, rfl, ?_, ?_⟩
          · exact (avs (avs (avs (avs (avs (avs HQ.out (x := ⟨w.heap.size + 1, 0, none⟩) (by show ¬ (w.heap.size + 1 < L ∨ w.heap.size + 3 ≤ w.heap.size + 1); omega) _) (x := ⟨w.heap.size + 1, 1, none⟩) (by show ¬ (w.heap.size + 1 < L ∨ w.heap.size + 3 ≤ w.heap.size + 1); omega) _) (x := ⟨w.heap.size + 1, 2, none⟩) (by show ¬ (w.heap.size + 1 < L ∨ w.heap.size + 3 ≤ w.heap.size + 1); omega) _) (x := ⟨w.heap.size + 1, 3, none⟩) (by show ¬ (w.heap.size + 1 < L ∨ w.heap.size + 3 ≤ w.heap.size + 1); omega) _) (x := ⟨w.heap.size + 1, 4, none⟩) (by show ¬ (w.heap.size + 1 < L ∨ w.heap.size + 3 ≤ w.heap.size + 1); omega) _) (x := ⟨w.heap.size + 1, 5, none⟩) (by show ¬ (w.heap.size + 1 < L ∨ w.heap.size + 3 ≤ w.heap.size + 1); omega) _).of (Nat.le_refl _) fun b hs _ => ⟨rfl, hs.elim .inl (fun h => .inr (by omega))⟩
          · exact ((((((HWR.out.setCell (by simp) _).setCell (by simp) _).setCell (by simp) _).setCell (by simp) _).setCell (by simp) _).setCell (by simp) _)
    · have hb3 := HB2.out.alloc HB2.out.size (.cells #[.int .i64 7, .string ⟨#[]⟩, .string ⟨#[]⟩, .int .i64 0, .int .i64 0, .slice none 0 0] 29)
      have BO := HBO2.out.alloc (.cells #[.int .i64 7, .string ⟨#[]⟩, .string ⟨#[]⟩, .int .i64 0, .int .i64 0, .slice none 0 0] 29)
      have BZ := HBZ2.out.alloc (.cells #[.int .i64 7, .string ⟨#[]⟩, .string ⟨#[]⟩, .int .i64 0, .int .i64 0, .slice none 0 0] 29)
      have BX := Blk.new w2 #[.int .i64 7, .string ⟨#[]⟩, .string ⟨#[]⟩, .int .i64 0, .int .i64 0, .slice none 0 0] 29
      rw [hs2] at BX
      have hs3 : (w2.alloc (.cells #[.int .i64 7, .string ⟨#[]⟩, .string ⟨#[]⟩, .int .i64 0, .int .i64 0, .slice none 0 0] 29)).heap.size = w.heap.size + 3 := by rw [World.size_alloc, hs2]
      clear HBO2 HBZ2 HB2 z0 z1 z2 z3 z4 z5 f0 f1 f2 f3 f4 f5
      go_enter Tryd.func51, Tryd.ntmps51
      go_upto_region 1 with fail
      rw [HW2.out]
      clear HW2
      go_wp2
      generalize w2.alloc (.cells #[.int .i64 7, .string ⟨#[]⟩, .string ⟨#[]⟩, .int .i64 0, .int .i64 0, .slice none 0 0] 29) = w3 at *
      have HBO : Hid (∀ wx, Below (w.heap.size + 2) w3 wx → Blk wx w.heap.size #[.int .i64 8, .string f, .string t, .int .i64 lo, .int .i64 hi, .slice a ps.length c] 29) := fun wx h => BO.below h (by omega)
      have HBZ : Hid (∀ wx, Below (w.heap.size + 2) w3 wx → Blk wx (w.heap.size + 1) #[.int .i64 0, .string ⟨#[]⟩, .string ⟨#[]⟩, .int .i64 0, .int .i64 0, .slice none 0 0] 29) := fun wx h => BZ.below h (by omega)
      have HB3 : Hid (Below w.heap.size w w3) := hb3
      clear BO BZ hb3 y0 y1 y2 y3 y4 y5 hs2
      go_loopw [4] (fun i wr => ∃ (j : Nat) (v : Value) (xs : List Value), j ≤ ps.length ∧ i = .int .i64 j ∧ Below (w.heap.size + 2) w3 wr ∧ Blk wr (w.heap.size + 2) #[.int .i64 7, .string ⟨#[]⟩, .string ⟨#[]⟩, .int .i64 0, .int .i64 0, v] 29 ∧ VList wr (fun b => b < L ∨ w.heap.size + 3 ≤ b) (w.heap.size + 3) D v xs ((List.range j).map fun i => turnQ (D - 1) (qat ps i))) (fun i _ => ps.length - (intOf i).toNat)
      case atStart => exact ⟨0, _, [], Nat.zero_le _, rfl, Below.refl _ _, BX, VList.nil _ _ _ _⟩
      case round =>
        clear BX
        obtain ⟨j, v, xs, hj, rfl, hbel, hbx, hvl⟩ := hrel
        have HWR : Hid (Below w.heap.size w wr) := HB3.out.trans ⟨hbel.os, hbel.tape, hbel.output, hbel.size, fun b hb => hbel.block b (by omega)⟩
        have BR := HBO.out wr hbel
        have b5 := BR.cell 5
        have hltx : w.heap.size + 2 < wr.heap.size := hbx.lt
        simp at b5
        by_cases hlt : j < ps.length
        · have hji : (j : Int) < (ps.length : Int) := by omega
          obtain ⟨d1, hD⟩ : ∃ d1, D = d1 + 1 := by
            cases D with
            | zero =>
              have e : ps = [] := HS.out
              rw [e] at hlt
              exact absurd hlt (by simp)
            | succ d1 => exact ⟨d1, rfl⟩
          have HF' : Hid (TurnS d1) := HF.out d1 hD
          subst hD
          obtain ⟨dj, _, hfj⟩ := form_part HFM.out (i := j) hlt
          obtain ⟨g, off, rfl, hgL, hg, hc⟩ := (HA.out wr HWR.out) (by omega)
          obtain ⟨p, c', ⟨c0, c1, c2, c3, c4, c5⟩, hq⟩ := hc j hlt
          obtain ⟨s1, s2, s3⟩ := HS.out.2 j hlt
          have HSN : Hid ((List.range (j + 1)).map (fun i => turnQ d1 (qat ps i)) = (List.range j).map (fun i => turnQ d1 (qat ps i)) ++ [turnQ d1 (qat ps j)]) := by unfold Hid; rw [List.range_succ, List.map_append]; rfl
          have hlj : ((List.range j).map (fun i => turnQ d1 (qat ps i))).length = j := by simp
          have HVL : Hid (VList wr (fun b => b < L ∨ w.heap.size + 3 ≤ b) (w.heap.size + 3) (d1 + 1) v xs ((List.range j).map fun i => turnQ d1 (qat ps i))) := hvl
          have HBX : Hid (Blk wr (w.heap.size + 2) #[.int .i64 7, .string ⟨#[]⟩, .string ⟨#[]⟩, .int .i64 0, .int .i64 0, v] 29) := hbx
          have HBE : Hid (Below (w.heap.size + 2) w3 wr) := hbel
          have x5 := hbx.cell 5
          simp at x5
          have HLQ : Hid (((List.range j).map (fun i => turnQ d1 (qat ps i))).length ≤ 1048576) := by unfold Hid; omega
          have hLr : L ≤ wr.heap.size := by omega
          have hcl := fun wx h1 h2 => HF'.out L dj (qat ps j).kind (qat ps j).field (qat ps j).text (qat ps j).low (qat ps j).high (qat ps j).parts p c' wx (by rw [Qy.eta]; exact hfj) h1 h2 s3
          rw [Qy.eta] at hcl
          generalize (List.range j).map (fun i => turnQ d1 (qat ps i)) = qs at *
          generalize turnQ d1 (qat ps j) = q2 at *
          generalize qat ps j = q at *
          obtain ⟨k1, f1, t1, lo1, hi1, p1⟩ := q
          obtain ⟨kd, f', t', lo', hi', pp⟩ := q2
          simp only [Qy.kind, Qy.field, Qy.text, Qy.low, Qy.high, Qy.parts] at c0 c1 c2 c3 c4 c5 hq s3 hcl
          have hqd := hq.drew
          have HCL : Hid (∀ wx, QAv wx (fun b => b < L) d1 p p1 → L ≤ wx.heap.size → Calls Tryd.prog 51 #[.agg #[.int .i64 k1, .string f1, .string t1, .int .i64 lo1, .int .i64 hi1, .slice p p1.length c']] wx fun e w' => ∃ p' c2, e = .returned (.agg #[.int .i64 kd, .string f', .string t', .int .i64 lo', .int .i64 hi', .slice p' pp.length c2]) ∧ QAv w' (fun b => b < L ∨ wx.heap.size ≤ b) (d1 + 1) p' pp ∧ Below wx.heap.size wx w') := hcl
          clear hc hvl hbx hbel BR hq s1 s2 s3 hlj HF HF' HA HS hcl hfj
          have HT2 : Hid (∀ p2 cc2, ∀ u ∈ [Value.int .i64 kd, .string f', .string t', .int .i64 lo', .int .i64 hi', .slice p2 pp.length cc2], u.oneCell' = true) := fun p2 cc2 => six_one (.mk kd f' t' lo' hi' pp) p2 cc2
          have HT6 : Hid (qs.length + 1 ≤ maxLen) := by have := HLQ.out; unfold Hid maxLen; omega
          have HT4 : Hid ((qs.length + 1) * 80 ≤ 140737488355328) := by have := HLQ.out; unfold Hid; omega
          go_wp2
          go_region_law (first
            | (go_simp; go_at_call 51; refine (HCL.out _ (by exact hqd) (by exact hLr)).mono ?_; rintro e wq ⟨p2, cc2, rfl, hq2, hb2d⟩; have hb2 : Below wr.heap.size wr wq := ⟨hb2d.os, hb2d.tape, hb2d.output, hb2d.size, hb2d.block⟩; have hbx2 := HBX.out.below hb2 hltx; have k52 := hbx2.cell 5; have l2 := hbx2.lt; have HVL2 := HVL.out.below hb2; simp at k52; clear hb2d)
            | (refine step_append_lies _ (by rfl) _ _ 27 (by rfl) (w.heap.size + 3) 29 i0 (.agg #[.int .i64 0, .string ⟨#[]⟩, .string ⟨#[]⟩, .int .i64 0, .int .i64 0, .slice none 0 0]) 6 80 Tryd.underlying27 hi0 hz0 hz1 hz2 rfl (by decide) v qs.length xs (by rfl) (HVL2.row.alloc _) ⟨wq.heap.size, 0, none⟩ 1 1 [.int .i64 kd, .string f', .string t', .int .i64 lo', .int .i64 hi', .slice p2 pp.length cc2] (by rfl) rfl (cells_new _ _ _) (HT2.out p2 cc2) (by omega) HT6.out HT4.out (by simp; omega) (wq.heap.size + 1) (by simp) ?_; intro g6 c6 w6 hown' hgrow hat hlt6; have hbx6 := (hbx2.alloc (.cells #[.int .i64 kd, .string f', .string t', .int .i64 lo', .int .i64 hi', .slice p2 pp.length cc2] 29)).grown hgrow (fun e => by have := (HVL2.row.lt _ e.symm).1; omega); have k6 := hbx6.cell 5; have y6 := hbx6.frozen 5; simp at k6))
          all_goals
            have hA : Below wq.heap.size wq (wq.alloc (.cells #[.int .i64 kd, .string f', .string t', .int .i64 lo', .int .i64 hi', .slice p2 pp.length cc2] 29)) := (Below.refl _ _).alloc (Nat.le_refl _) _
            have hb2A : Below wr.heap.size wr (wq.alloc (.cells #[.int .i64 kd, .string f', .string t', .int .i64 lo', .int .i64 hi', .slice p2 pp.length cc2] 29)) := hb2.trans (hA.mono hb2.size)
            have hq2A : QAv (wq.alloc (.cells #[.int .i64 kd, .string f', .string t', .int .i64 lo', .int .i64 hi', .slice p2 pp.length cc2] 29)) (fun b => b < L ∨ wr.heap.size ≤ b) (d1 + 1) p2 (Qy.mk kd f' t' lo' hi' pp).parts := QAv.of hA.size (fun b hs hlt => ⟨hA.block b hlt, hs⟩) hq2
            have hvlt : ∀ b, v.ownBlock = some b → w.heap.size + 3 ≤ b ∧ b < wr.heap.size := fun b e => HVL.out.row.lt b e
            have HN6 : VList w6 (fun b => b < L ∨ w.heap.size + 3 ≤ b) (w.heap.size + 3) (d1 + 1) (.slice (some ⟨g6, 0, none⟩) (qs.length + 1) c6) (xs ++ qVal (.mk kd f' t' lo' hi' pp) p2 cc2) (qs ++ [.mk kd f' t' lo' hi' pp]) := HVL.out.snoc hb2A hq2A (fun b hb => ⟨hb.elim .inl (fun h => .inr (by omega)), fun e => by have := hvlt b e; rcases hb with hb | hb <;> omega⟩) hown' hgrow (by
              rcases hat with e | e
              · exact .inl e.symm
              · refine .inr ?_
                rw [e, World.size_alloc]
                rfl)
            have HN : Hid (VList (w6.setCell ⟨w.heap.size + 2, 5, none⟩ (.slice (some ⟨g6, 0, none⟩) (qs.length + 1) c6)) (fun b => b < L ∨ w.heap.size + 3 ≤ b) (w.heap.size + 3) (d1 + 1) (.slice (some ⟨g6, 0, none⟩) (qs.length + 1) c6) (xs ++ qVal (.mk kd f' t' lo' hi' pp) p2 cc2) (qs ++ [.mk kd f' t' lo' hi' pp])) := HN6.set (by show ¬ (w.heap.size + 2 < L ∨ w.heap.size + 3 ≤ w.heap.size + 2); omega) (by show w.heap.size + 2 < w.heap.size + 3; omega) _
            have HBN : Hid (Blk (w6.setCell ⟨w.heap.size + 2, 5, none⟩ (.slice (some ⟨g6, 0, none⟩) (qs.length + 1) c6)) (w.heap.size + 2) #[.int .i64 7, .string ⟨#[]⟩, .string ⟨#[]⟩, .int .i64 0, .int .i64 0, .slice (some ⟨g6, 0, none⟩) (qs.length + 1) c6] 29) := hbx6.set 5 _
            have hwA : Below (w.heap.size + 2) w3 (wq.alloc (.cells #[.int .i64 kd, .string f', .string t', .int .i64 lo', .int .i64 hi', .slice p2 pp.length cc2] 29)) := HBE.out.trans ⟨hb2A.os, hb2A.tape, hb2A.output, hb2A.size, fun b hb => hb2A.block b (by omega)⟩
            have HWN : Hid (Below (w.heap.size + 2) w3 (w6.setCell ⟨w.heap.size + 2, 5, none⟩ (.slice (some ⟨g6, 0, none⟩) (qs.length + 1) c6))) := (hwA.grown hgrow (by have := hA.size; have := hb2.size; omega) (fun b e => by have := hvlt b e; omega)).setCell (Nat.le_refl _) _
            clear hA hb2A hq2A hvlt HN6 hwA hown' hgrow hat hbx6 hbx2 HVL2 hb2 hq2 k52 k6 y6 HVL HBX HBE HCL HT2 HT6 HT4 hqd x5 b5 c0 c1 c2 c3 c4 c5
            go_wp2
            go_roundw
            case rel => exact ⟨j + 1, _, _, by omega, by go_num, HWN.out, HBN.out, by rw [Nat.add_sub_cancel, HSN.out]; exact HN.out⟩
            case measure => simp [intOf]; omega
        · have hjl : j = ps.length := by omega
          subst hjl
          have hrs : (List.range ps.length).map (fun i => turnQ (D - 1) (qat ps i)) = turnT D ps := by
            cases D with
            | zero =>
              have e : ps = [] := HS.out
              subst e
              rfl
            | succ d1 => rfl
          rw [hrs, HRS.out] at hvl
          obtain ⟨p', c2, hv, hav⟩ := hvl.av (fun b hb => .inr hb)
          subst hv
          have HQ : Hid (QAv wr (fun b => b < L ∨ w.heap.size + 3 ≤ b) (D + 1) p' rs) := hav
          have BZR := HBZ.out wr hbel
          have x0 := hbx.cell 0
          have x1 := hbx.cell 1
          have x2 := hbx.cell 2
          have x3 := hbx.cell 3
          have x4 := hbx.cell 4
          have x5 := hbx.cell 5
          have z0 := BZR.cell 0
          have z1 := BZR.cell 1
          have z2 := BZR.cell 2
          have z3 := BZR.cell 3
          have z4 := BZR.cell 4
          have z5 := BZR.cell 5
          have f0 := BZR.frozen 0
          have f1 := BZR.frozen 1
          have f2 := BZR.frozen 2
          have f3 := BZR.frozen 3
          have f4 := BZR.frozen 4
          have f5 := BZR.frozen 5
          simp at x0 x1 x2 x3 x4 x5 z0 z1 z2 z3 z4 z5
          clear hvl hav BZR BR hbx hbel HA HF HS HBO HBZ
          go_wp2
          refine bodyPost_ret (v := .agg #[.int .i64 7, .string ⟨#[]⟩, .string ⟨#[]⟩, .int .i64 0, .int .i64 0, .slice p' rs.length c2]) (by simp [results, Tryd.results51, go_sem, z0, z1, z2, z3, z4, z5]) rfl ⟨p', c2, rfl, ?_, ?_⟩
          · exact (avs (avs (avs (avs (avs (avs HQ.out (x := ⟨w.heap.size + 1, 0, none⟩) (by show ¬ (w.heap.size + 1 < L ∨ w.heap.size + 3 ≤ w.heap.size + 1); omega) _) (x := ⟨w.heap.size + 1, 1, none⟩) (by show ¬ (w.heap.size + 1 < L ∨ w.heap.size + 3 ≤ w.heap.size + 1); omega) _) (x := ⟨w.heap.size + 1, 2, none⟩) (by show ¬ (w.heap.size + 1 < L ∨ w.heap.size + 3 ≤ w.heap.size + 1); omega) _) (x := ⟨w.heap.size + 1, 3, none⟩) (by show ¬ (w.heap.size + 1 < L ∨ w.heap.size + 3 ≤ w.heap.size + 1); omega) _) (x := ⟨w.heap.size + 1, 4, none⟩) (by show ¬ (w.heap.size + 1 < L ∨ w.heap.size + 3 ≤ w.heap.size + 1); omega) _) (x := ⟨w.heap.size + 1, 5, none⟩) (by show ¬ (w.heap.size + 1 < L ∨ w.heap.size + 3 ≤ w.heap.size + 1); omega) _).of (Nat.le_refl _) fun b hs _ => ⟨rfl, hs.elim .inl (fun h => .inr (by omega))⟩
          · exact ((((((HWR.out.setCell (by simp) _).setCell (by simp) _).setCell (by simp) _).setCell (by simp) _).setCell (by simp) _).setCell (by simp) _)
  have h7b : (k == 7) = false := beq_eq_false_iff_ne.2 (by omega)
  have h8b : (k == 8) = false := beq_eq_false_iff_ne.2 (by omega)
  have HE : Hid (turnQ D (.mk k f t lo hi ps) = .mk 9 ⟨#[]⟩ ⟨#[]⟩ 0 0 [.mk k f t lo hi ps]) := turn_no D f t lo hi ps h9 h78
  rw [HE.out]
  have HQ : Hid (QAv w2 (fun b => b < L) D a ps) := HA.out w2 HB2.out
  clear HE HF HS HFM HA
  go_enter Tryd.func51, Tryd.ntmps51
  go_upto_region 1 with fail
  rw [HW2.out]
  clear HW2
  go_wp2
  refine bodyPost_ret (v := .agg #[.int .i64 9, .string ⟨#[]⟩, .string ⟨#[]⟩, .int .i64 0, .int .i64 0, .slice (some ⟨w.heap.size + 2, 0, none⟩) 1 1]) (by simp [results, Tryd.results51, go_sem, z0, z1, z2, z3, z4, z5, hs2]) rfl ⟨some ⟨w.heap.size + 2, 0, none⟩, 1, rfl, ?_, ?_⟩
  · have h1 := (avs (avs (avs (avs (avs (avs HQ.out (x := ⟨w.heap.size + 1, 0, none⟩) (by show ¬ (w.heap.size + 1 < L); omega) (.int .i64 9)) (x := ⟨w.heap.size + 1, 1, none⟩) (by show ¬ (w.heap.size + 1 < L); omega) (.string ⟨#[]⟩)) (x := ⟨w.heap.size + 1, 2, none⟩) (by show ¬ (w.heap.size + 1 < L); omega) (.string ⟨#[]⟩)) (x := ⟨w.heap.size + 1, 3, none⟩) (by show ¬ (w.heap.size + 1 < L); omega) (.int .i64 0)) (x := ⟨w.heap.size + 1, 4, none⟩) (by show ¬ (w.heap.size + 1 < L); omega) (.int .i64 0)) (x := ⟨w.heap.size + 1, 5, none⟩) (by show ¬ (w.heap.size + 1 < L); omega) (.slice (some ⟨w.heap.size + 2, 0, none⟩) 1 1))
    have h2 := av_one (q := .mk k f t lo hi ps) (c := c) h1
    simp only [World.size_setCell, hs2] at h2
    exact h2.of (Nat.le_refl _) fun b hs _ => ⟨rfl, hs.elim .inl (fun h => .inr (by omega))⟩
  · exact ((((((HB2.out.setCell (by simp) _).setCell (by simp) _).setCell (by simp) _).setCell (by simp) _).setCell (by simp) _).setCell (by simp) _).alloc (by simp; omega) _
theorem turnS_any : ∀ D, TurnS D
  | 0 => turnS_of (fun D' h => by omega)
  | D + 1 => turnS_of (fun D' h => by obtain rfl : D = D' := by omega
                                      exact turnS_any D)
end Go.Proofs.YtfakoalkbcnejaaDoor
