/- The walk of spec.l5Own. -/
import Derived.Test.YtfakoalkbcnejaaDoorQyOwnS
namespace Go.Proofs.YtfakoalkbcnejaaDoor
open Go.RowKit
set_option linter.unusedVariables false

theorem qVal_mk (k : Int) (f t : ByteArray) (lo hi : Int) (ps : List Qy) (p : Option Addr) (c : Nat) : qVal (.mk k f t lo hi ps) p c = [.int .i64 k, .string f, .string t, .int .i64 lo, .int .i64 hi, .slice p ps.length c] := rfl
/-- spec.l5Own at trees whose parts are at most D deep. -/
def OwnS (D : Nat) : Prop := ∀ (k : Int) (f t : ByteArray) (lo hi : Int) (ps : List Qy) (a : Option Addr) (c : Nat) (w : World), QAt w 0 D a ps → QSz 1048576 D ps →
  Calls Tryd.prog 50 #[.agg #[.int .i64 k, .string f, .string t, .int .i64 lo, .int .i64 hi, .slice a ps.length c]] w fun e w' => ∃ p' c', e = .returned (.agg #[.int .i64 k, .string f, .string t, .int .i64 lo, .int .i64 hi, .slice p' ps.length c']) ∧ QAt w' w.heap.size D p' ps ∧ Below w.heap.size w w'
set_option maxRecDepth 100000 in
set_option maxHeartbeats 4000000 in
theorem ownS_of {D : Nat} (hF : ∀ D', D = D' + 1 → OwnS D') : OwnS D := by
  intro k f t lo hi ps a c w ha hsz
  obtain ⟨i0, hi0, hz0, hz1, hz2⟩ := info_parts infoQy
  have hb1 : Below w.heap.size w (w.alloc (.cells #[.int .i64 k, .string f, .string t, .int .i64 lo, .int .i64 hi, .slice a ps.length c] 29)) := (Below.refl _ w).alloc (Nat.le_refl _) _
  have hb2 := hb1.alloc hb1.size (.cells #[.int .i64 0, .string ⟨#[]⟩, .string ⟨#[]⟩, .int .i64 0, .int .i64 0, .slice none 0 0] 29)
  have hb3 := hb2.alloc hb2.size (.cells #[.int .i64 k, .string f, .string t, .int .i64 lo, .int .i64 hi, .slice none 0 0] 29)
  have BO := ((Blk.new w #[.int .i64 k, .string f, .string t, .int .i64 lo, .int .i64 hi, .slice a ps.length c] 29).alloc (.cells #[.int .i64 0, .string ⟨#[]⟩, .string ⟨#[]⟩, .int .i64 0, .int .i64 0, .slice none 0 0] 29)).alloc (.cells #[.int .i64 k, .string f, .string t, .int .i64 lo, .int .i64 hi, .slice none 0 0] 29)
  have BZ := (Blk.new (w.alloc (.cells #[.int .i64 k, .string f, .string t, .int .i64 lo, .int .i64 hi, .slice a ps.length c] 29)) #[.int .i64 0, .string ⟨#[]⟩, .string ⟨#[]⟩, .int .i64 0, .int .i64 0, .slice none 0 0] 29).alloc (.cells #[.int .i64 k, .string f, .string t, .int .i64 lo, .int .i64 hi, .slice none 0 0] 29)
  have BX := Blk.new ((w.alloc (.cells #[.int .i64 k, .string f, .string t, .int .i64 lo, .int .i64 hi, .slice a ps.length c] 29)).alloc (.cells #[.int .i64 0, .string ⟨#[]⟩, .string ⟨#[]⟩, .int .i64 0, .int .i64 0, .slice none 0 0] 29)) #[.int .i64 k, .string f, .string t, .int .i64 lo, .int .i64 hi, .slice none 0 0] 29
  rw [show (w.alloc (.cells #[.int .i64 k, .string f, .string t, .int .i64 lo, .int .i64 hi, .slice a ps.length c] 29)).heap.size = w.heap.size + 1 by simp] at BZ
  rw [show ((w.alloc (.cells #[.int .i64 k, .string f, .string t, .int .i64 lo, .int .i64 hi, .slice a ps.length c] 29)).alloc (.cells #[.int .i64 0, .string ⟨#[]⟩, .string ⟨#[]⟩, .int .i64 0, .int .i64 0, .slice none 0 0] 29)).heap.size = w.heap.size + 2 by simp] at BX
  have hs3 : (((w.alloc (.cells #[.int .i64 k, .string f, .string t, .int .i64 lo, .int .i64 hi, .slice a ps.length c] 29)).alloc (.cells #[.int .i64 0, .string ⟨#[]⟩, .string ⟨#[]⟩, .int .i64 0, .int .i64 0, .slice none 0 0] 29)).alloc (.cells #[.int .i64 k, .string f, .string t, .int .i64 lo, .int .i64 hi, .slice none 0 0] 29)).heap.size = w.heap.size + 3 := by simp
  have HA : Hid (∀ wx, Below w.heap.size w wx → QAt wx 0 D a ps) := fun wx h => ha.below h
  have HF : Hid (∀ D', D = D' + 1 → OwnS D') := hF
  have HS : Hid (QSz 1048576 D ps) := hsz
  have hz := hsz.len
  clear ha hsz hF hb1 hb2
  go_enter Tryd.func50, Tryd.ntmps50
  go_wp2
  generalize ((w.alloc (.cells #[.int .i64 k, .string f, .string t, .int .i64 lo, .int .i64 hi, .slice a ps.length c] 29)).alloc (.cells #[.int .i64 0, .string ⟨#[]⟩, .string ⟨#[]⟩, .int .i64 0, .int .i64 0, .slice none 0 0] 29)).alloc (.cells #[.int .i64 k, .string f, .string t, .int .i64 lo, .int .i64 hi, .slice none 0 0] 29) = w3 at *
  have HBO : Hid (∀ wx, Below (w.heap.size + 2) w3 wx → Blk wx w.heap.size #[.int .i64 k, .string f, .string t, .int .i64 lo, .int .i64 hi, .slice a ps.length c] 29) := fun wx h => BO.below h (by omega)
  have HBZ : Hid (∀ wx, Below (w.heap.size + 2) w3 wx → Blk wx (w.heap.size + 1) #[.int .i64 0, .string ⟨#[]⟩, .string ⟨#[]⟩, .int .i64 0, .int .i64 0, .slice none 0 0] 29) := fun wx h => BZ.below h (by omega)
  have HB3 : Hid (Below w.heap.size w w3) := hb3
  clear BO BZ hb3
  go_loopw [4] (fun i wr => ∃ (j : Nat) (v : Value) (xs : List Value), j ≤ ps.length ∧ i = .int .i64 j ∧ Below (w.heap.size + 2) w3 wr ∧ Blk wr (w.heap.size + 2) #[.int .i64 k, .string f, .string t, .int .i64 lo, .int .i64 hi, v] 29 ∧ VList wr (fun b => w.heap.size + 3 ≤ b) (w.heap.size + 3) (D - 1) v xs ((List.range j).map fun i => qat ps i)) (fun i _ => ps.length - (intOf i).toNat)
  case atStart => exact ⟨0, _, [], Nat.zero_le _, rfl, Below.refl _ _, BX, VList.nil _ _ _ _⟩
  case round =>
    clear BX
    obtain ⟨j, v, xs, hj, rfl, hbel, hbx, hvl⟩ := hrel
    have HWR : Hid (Below w.heap.size w wr) := HB3.out.trans ⟨hbel.os, hbel.tape, hbel.output, hbel.size, fun b hb => hbel.block b (by omega)⟩
    have BR := HBO.out wr hbel
    have b5 := BR.cell 5
    have hltx : w.heap.size + 2 < wr.heap.size := hbx.lt
    simp at b5
    by_cases hlt : j < ps.length
    · have hji : (j : Int) < (ps.length : Int) := by omega
      obtain ⟨d, hD⟩ : ∃ d, D = d + 1 := by
        cases D with
        | zero =>
          have e : ps = [] := HS.out
          rw [e] at hlt
          exact absurd hlt (by simp)
        | succ d => exact ⟨d, rfl⟩
      have HF' : Hid (OwnS d) := HF.out d hD
      subst hD
      obtain ⟨g, off, rfl, _, hg, hc⟩ := (HA.out wr HWR.out) (by omega)
      obtain ⟨p, c', ⟨c0, c1, c2, c3, c4, c5⟩, hq⟩ := hc j hlt
      obtain ⟨s1, s2, s3⟩ := HS.out.2 j hlt
      have HSN : Hid ((List.range (j + 1)).map (fun i => qat ps i) = (List.range j).map (fun i => qat ps i) ++ [qat ps j]) := by unfold Hid; rw [List.range_succ, List.map_append]; rfl
      have hlj : ((List.range j).map (fun i => qat ps i)).length = j := by simp
      have HVL : Hid (VList wr (fun b => w.heap.size + 3 ≤ b) (w.heap.size + 3) d v xs ((List.range j).map fun i => qat ps i)) := hvl
      have HBX : Hid (Blk wr (w.heap.size + 2) #[.int .i64 k, .string f, .string t, .int .i64 lo, .int .i64 hi, v] 29) := hbx
      have HBE : Hid (Below (w.heap.size + 2) w3 wr) := hbel
      have x5 := hbx.cell 5
      simp at x5
      have HLQ : Hid (((List.range j).map (fun i => qat ps i)).length ≤ 1048576) := by unfold Hid; omega
      generalize (List.range j).map (fun i => qat ps i) = qs at *
      generalize qat ps j = q at *
      obtain ⟨kd, f', t', lo', hi', pp⟩ := q
      simp only [Qy.kind, Qy.field, Qy.text, Qy.low, Qy.high, Qy.parts] at c0 c1 c2 c3 c4 c5 hq s3
      have hqd := hq.drewQ
      have HCL : Hid (∀ wx, QAt wx 0 d p pp → Calls Tryd.prog 50 #[.agg #[.int .i64 kd, .string f', .string t', .int .i64 lo', .int .i64 hi', .slice p pp.length c']] wx fun e w' => ∃ p' c2, e = .returned (.agg #[.int .i64 kd, .string f', .string t', .int .i64 lo', .int .i64 hi', .slice p' pp.length c2]) ∧ QAt w' wx.heap.size d p' pp ∧ Below wx.heap.size wx w') := fun wx h => HF'.out kd f' t' lo' hi' pp p c' wx h s3
      clear hc hvl hbx hbel BR hq s1 s2 s3 hlj HF HF' HA HS
      have HT2 : Hid (∀ p2 cc2, ∀ u ∈ [Value.int .i64 kd, .string f', .string t', .int .i64 lo', .int .i64 hi', .slice p2 pp.length cc2], u.oneCell' = true) := fun p2 cc2 => six_one (.mk kd f' t' lo' hi' pp) p2 cc2
      have HT6 : Hid (qs.length + 1 ≤ maxLen) := by have := HLQ.out; unfold Hid maxLen; omega
      have HT4 : Hid ((qs.length + 1) * 80 ≤ 140737488355328) := by have := HLQ.out; unfold Hid; omega
      go_wp2
      go_region_law (first
        | (go_simp; go_at_call 50; refine (HCL.out _ (by exact hqd)).mono ?_; rintro e w2 ⟨p2, cc2, rfl, hq2, hb2d⟩; have hb2 : Below wr.heap.size wr w2 := ⟨hb2d.os, hb2d.tape, hb2d.output, hb2d.size, hb2d.block⟩; have hbx2 := HBX.out.below hb2 hltx; have k52 := hbx2.cell 5; have l2 := hbx2.lt; have HVL2 := HVL.out.below hb2; simp at k52; clear hb2d)
        | (refine step_append_lies _ (by rfl) _ _ 27 (by rfl) (w.heap.size + 3) 29 i0 (.agg #[.int .i64 0, .string ⟨#[]⟩, .string ⟨#[]⟩, .int .i64 0, .int .i64 0, .slice none 0 0]) 6 80 Tryd.underlying27 hi0 hz0 hz1 hz2 rfl (by decide) v qs.length xs (by rfl) (HVL2.row.alloc _) ⟨w2.heap.size, 0, none⟩ 1 1 [.int .i64 kd, .string f', .string t', .int .i64 lo', .int .i64 hi', .slice p2 pp.length cc2] (by rfl) rfl (cells_new _ _ _) (HT2.out p2 cc2) (by omega) HT6.out HT4.out (by simp; omega) (w2.heap.size + 1) (by simp) ?_; intro g6 c6 w6 hown' hgrow hat hlt6; have hbx6 := (hbx2.alloc (.cells #[.int .i64 kd, .string f', .string t', .int .i64 lo', .int .i64 hi', .slice p2 pp.length cc2] 29)).grown hgrow (fun e => by have := (HVL2.row.lt _ e.symm).1; omega); have k6 := hbx6.cell 5; have y6 := hbx6.frozen 5; simp at k6))
      all_goals
        have hA : Below w2.heap.size w2 (w2.alloc (.cells #[.int .i64 kd, .string f', .string t', .int .i64 lo', .int .i64 hi', .slice p2 pp.length cc2] 29)) := (Below.refl _ _).alloc (Nat.le_refl _) _
        have hb2A : Below wr.heap.size wr (w2.alloc (.cells #[.int .i64 kd, .string f', .string t', .int .i64 lo', .int .i64 hi', .slice p2 pp.length cc2] 29)) := hb2.trans (hA.mono hb2.size)
        have hq2A : QAv (w2.alloc (.cells #[.int .i64 kd, .string f', .string t', .int .i64 lo', .int .i64 hi', .slice p2 pp.length cc2] 29)) (fun b => wr.heap.size ≤ b) d p2 (Qy.mk kd f' t' lo' hi' pp).parts := QAv.of hA.size (fun b hs hlt => ⟨hA.block b hlt, hs⟩) (QAt.av hq2)
        have hvlt : ∀ b, v.ownBlock = some b → w.heap.size + 3 ≤ b ∧ b < wr.heap.size := fun b e => HVL.out.row.lt b e
        have HN6 : VList w6 (fun b => w.heap.size + 3 ≤ b) (w.heap.size + 3) d (.slice (some ⟨g6, 0, none⟩) (qs.length + 1) c6) (xs ++ qVal (.mk kd f' t' lo' hi' pp) p2 cc2) (qs ++ [.mk kd f' t' lo' hi' pp]) := HVL.out.snoc hb2A hq2A (fun b hb => ⟨by omega, fun e => by have := hvlt b e; omega⟩) hown' hgrow (by
          rcases hat with e | e
          · exact .inl e.symm
          · refine .inr ?_
            rw [e, World.size_alloc]
            rfl)
        have HN : Hid (VList (w6.setCell ⟨w.heap.size + 2, 5, none⟩ (.slice (some ⟨g6, 0, none⟩) (qs.length + 1) c6)) (fun b => w.heap.size + 3 ≤ b) (w.heap.size + 3) d (.slice (some ⟨g6, 0, none⟩) (qs.length + 1) c6) (xs ++ qVal (.mk kd f' t' lo' hi' pp) p2 cc2) (qs ++ [.mk kd f' t' lo' hi' pp])) := HN6.set (by show ¬ (w.heap.size + 3 ≤ w.heap.size + 2); omega) (by show w.heap.size + 2 < w.heap.size + 3; omega) _
        have HBN : Hid (Blk (w6.setCell ⟨w.heap.size + 2, 5, none⟩ (.slice (some ⟨g6, 0, none⟩) (qs.length + 1) c6)) (w.heap.size + 2) #[.int .i64 k, .string f, .string t, .int .i64 lo, .int .i64 hi, .slice (some ⟨g6, 0, none⟩) (qs.length + 1) c6] 29) := hbx6.set 5 _
        have hwA : Below (w.heap.size + 2) w3 (w2.alloc (.cells #[.int .i64 kd, .string f', .string t', .int .i64 lo', .int .i64 hi', .slice p2 pp.length cc2] 29)) := HBE.out.trans ⟨hb2A.os, hb2A.tape, hb2A.output, hb2A.size, fun b hb => hb2A.block b (by omega)⟩
        have HWN : Hid (Below (w.heap.size + 2) w3 (w6.setCell ⟨w.heap.size + 2, 5, none⟩ (.slice (some ⟨g6, 0, none⟩) (qs.length + 1) c6))) := (hwA.grown hgrow (by have := hA.size; have := hb2.size; omega) (fun b e => by have := hvlt b e; omega)).setCell (Nat.le_refl _) _
        clear hA hb2A hq2A hvlt HN6 hwA hown' hgrow hat hbx6 hbx2 HVL2 hb2 hq2 k52 k6 y6 HVL HBX HBE HCL HT2 HT6 HT4 hqd x5 b5 c0 c1 c2 c3 c4 c5
        go_wp2
        go_roundw
        case rel => exact ⟨j + 1, _, _, by omega, by go_num, HWN.out, HBN.out, by rw [HSN.out]; exact HN.out⟩
        case measure => simp [intOf]; omega
    · have hjl : j = ps.length := by omega
      subst hjl
      rw [range_qat] at hvl
      obtain ⟨p', c2, hv, hav⟩ := hvl.av (fun b hb => hb)
      subst hv
      have HQ : Hid (QAt wr (w.heap.size + 3) D p' ps) := by
        cases D with
        | zero => exact HS.out
        | succ d => exact hav.at
      have BZR := HBZ.out wr hbel
      have x0 := hbx.cell 0
      have x1 := hbx.cell 1
      have x2 := hbx.cell 2
      have x3 := hbx.cell 3
      have x4 := hbx.cell 4
      have x5 := hbx.cell 5
      have z0 := BZR.cell 0
      have z1 := BZR.cell 1
      have z2 := BZR.cell 2
      have z3 := BZR.cell 3
      have z4 := BZR.cell 4
      have z5 := BZR.cell 5
      have f0 := BZR.frozen 0
      have f1 := BZR.frozen 1
      have f2 := BZR.frozen 2
      have f3 := BZR.frozen 3
      have f4 := BZR.frozen 4
      have f5 := BZR.frozen 5
      simp at x0 x1 x2 x3 x4 x5 z0 z1 z2 z3 z4 z5
      clear hvl hav BZR BR hbx hbel HA HF HS HBO HBZ
      go_wp2
      refine bodyPost_ret (v := .agg #[.int .i64 k, .string f, .string t, .int .i64 lo, .int .i64 hi, .slice p' ps.length c2]) (by simp [results, Tryd.results50, go_sem, z0, z1, z2, z3, z4, z5]) rfl ⟨p', c2, rfl, ?_, ?_⟩
      · refine QAt.base (B := w.heap.size + 3) (by omega) ?_
        exact ((((((HQ.out.set (by simp) _).set (by simp) _).set (by simp) _).set (by simp) _).set (by simp) _).set (by simp) _)
      · exact ((((((HWR.out.setCell (by simp) _).setCell (by simp) _).setCell (by simp) _).setCell (by simp) _).setCell (by simp) _).setCell (by simp) _)
theorem ownS_any : ∀ D, OwnS D
  | 0 => ownS_of (fun D' h => by omega)
  | D + 1 => ownS_of (fun D' h => by obtain rfl : D = D' := by omega
                                     exact ownS_any D)
end Go.Proofs.YtfakoalkbcnejaaDoor
