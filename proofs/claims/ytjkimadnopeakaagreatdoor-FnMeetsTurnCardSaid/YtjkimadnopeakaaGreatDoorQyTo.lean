/- laws.toQuery: a tree is copied. -/
import Derived.Test.YtjkimadnopeakaaGreatDoorQys
namespace Go.Proofs.YtjkimadnopeakaaGreatDoor
open Go.RowKit
set_option linter.unusedVariables false

theorem qto_grown {w w' : World} {B d k g : Nat} {xs : List Value} {ps : List Qy} (h : QTo w B d xs ps k) (hg : w.grownBy w' (some g)) (hB : g < B) : QTo w' B d xs ps k :=
  h.kept hg.size (fun b h1 h2 => hg.block b h2 (by simp; omega))
theorem toQueryS_nil (a : Option Addr) (cap : Nat) (w : World) :
    Calls Tryz.prog 42 #[.slice a 0 cap] w fun e w' => ∃ p c, e = .returned (.slice p 0 c) ∧ Below w.heap.size w w' := by
  obtain ⟨i0, hi, hz0, hz1, hz2⟩ := info_parts infoQy
  go_enter Tryz.func42, Tryz.ntmps42
  go_wp2_with (refine wpList_make_full _ rfl _ _ 39 rfl w.heap.size 41 i0 (.agg #[.int .i64 0, .string ⟨#[]⟩, .string ⟨#[]⟩, .int .i64 0, .int .i64 0, .slice none 0 0]) 6 Tryz.underlying39 hi hz0 hz1 .i64 .i64 _ _ 0 rfl rfl rfl rfl (by rw [hz2]; omega) (by unfold maxLen; omega) (Nat.le_refl _) ?_; intro w1 hown1 hgrow1)
  have hb1 : Below w.heap.size w w1 := (Below.refl _ w).grown hgrow1 (Nat.le_refl _) (fun j hj => by cases hj)
  clear hown1 hgrow1
  go_wp2
  refine wp_loop_rounds 1 ?_
  rw [rounds_succ]
  go_wp2
  go_ret
  exact ⟨_, _, rfl, hb1⟩
/-- toQuery at trees whose parts are at most d deep. -/
def ToQ (d : Nat) : Prop := ∀ (k : Int) (f t : ByteArray) (lo hi : Int) (ps : List Qy) (a : Option Addr) (c : Nat) (w : World), QAt w 0 d a ps → QSz 1048576 d ps →
  Calls Tryz.prog 16 #[.agg #[.int .i64 k, .string f, .string t, .int .i64 lo, .int .i64 hi, .slice a ps.length c]] w fun e w' => ∃ p c', e = .returned (.agg #[.int .i64 k, .string f, .string t, .int .i64 lo, .int .i64 hi, .slice p ps.length c']) ∧ QAt w' w.heap.size d p ps ∧ Below w.heap.size w w'
def ToQS (d : Nat) : Prop := ∀ (ps : List Qy) (a : Option Addr) (c : Nat) (w : World), QAt w 0 d a ps → QSz 1048576 d ps →
  Calls Tryz.prog 42 #[.slice a ps.length c] w fun e w' => ∃ p c', e = .returned (.slice p ps.length c') ∧ QAt w' w.heap.size d p ps ∧ Below w.heap.size w w'
set_option maxRecDepth 100000 in
set_option maxHeartbeats 2000000 in
theorem toQS_step {d : Nat} (hT : ToQ d) : ToQS (d + 1) := by
  intro ps a cap w ha hsz
  obtain ⟨i0, hi, hz0, hz1, hz2⟩ := info_parts infoQy
  have HT : Hid (ToQ d) := hT
  have HA : Hid (∀ wx, Below w.heap.size w wx → QAt wx 0 (d + 1) a ps) := fun wx h => ha.below h
  have hz := hsz.len
  have HS : Hid (∀ i, i < ps.length → QSz 1048576 d (qat ps i).parts) := fun i hi => (hsz.2 i hi).2.2
  clear ha hsz hT
  go_enter Tryz.func42, Tryz.ntmps42
  go_wp2_with (refine wpList_make_full _ rfl _ _ 39 rfl w.heap.size 41 i0 (.agg #[.int .i64 0, .string ⟨#[]⟩, .string ⟨#[]⟩, .int .i64 0, .int .i64 0, .slice none 0 0]) 6 Tryz.underlying39 hi hz0 hz1 .i64 .i64 _ _ ps.length rfl rfl rfl rfl (by rw [hz2]; omega) (by unfold maxLen; omega) (Nat.le_refl _) ?_; intro w1 hown1 hgrow1)
  have hb1 : Below w.heap.size w w1 := (Below.refl _ w).grown hgrow1 (Nat.le_refl _) (fun j hj => by cases hj)
  generalize (madeCells (Value.agg #[.int .i64 0, .string ⟨#[]⟩, .string ⟨#[]⟩, .int .i64 0, .int .i64 0, .slice none 0 0]).cells (ps.length * 6)).toList = x0 at hown1
  have HO : Hid (w1.ownsRow w.heap.size 41 6 (.slice (some ⟨w.heap.size, 0, none⟩) ps.length ps.length) ps.length x0) := hown1
  clear hown1 hgrow1
  go_wp2
  go_loopw [4] (fun i wr => ∃ (k : Nat) (xs : List Value), k ≤ ps.length ∧ i = .int .i64 k ∧ wr.ownsRow w.heap.size 41 6 (.slice (some ⟨w.heap.size, 0, none⟩) ps.length ps.length) ps.length xs ∧ QTo wr (w.heap.size + 1) d xs ps k ∧ Below w.heap.size w wr) (fun i _ => ps.length - (intOf i).toNat)
  case atStart => exact ⟨0, x0, Nat.zero_le _, rfl, HO.out, fun i hi => by omega, hb1⟩
  case round =>
    clear HO
    obtain ⟨k, xs, hk, rfl, hown, hto, hbel⟩ := hrel
    by_cases hlt : k < ps.length
    · have hki : (k : Int) < (ps.length : Int) := by omega
      obtain ⟨g, off, rfl, _, hg, hc⟩ := (HA.out wr hbel) (by omega)
      obtain ⟨p, c, ⟨c0, c1, c2, c3, c4, c5⟩, hq⟩ := hc k hlt
      have hxl := hown.1
      have HTO : Hid (QTo wr (w.heap.size + 1) d xs ps k) := hto
      have HOW : Hid (wr.ownsRow w.heap.size 41 6 (.slice (some ⟨w.heap.size, 0, none⟩) ps.length ps.length) ps.length xs) := hown
      have hss := HS.out k hlt
      have hgl := (hown.lt _ rfl).2
      have hkx : k * 6 + 5 < xs.length := by omega
      have HST : Hid (∀ wx p c, QTo wx (w.heap.size + 1) d xs ps k → QAt wx (w.heap.size + 1) d p (qat ps k).parts → QTo wx (w.heap.size + 1) d ((((((xs.set (k * 6) (.int .i64 (qat ps k).kind)).set (k * 6 + 1) (.string (qat ps k).field)).set (k * 6 + 2) (.string (qat ps k).text)).set (k * 6 + 3) (.int .i64 (qat ps k).low)).set (k * 6 + 4) (.int .i64 (qat ps k).high)).set (k * 6 + 5) (.slice p (qat ps k).parts.length c)) ps (k + 1)) := fun wx p c h1 h2 => h1.step hkx h2
      generalize qat ps k = q at *
      obtain ⟨kd, f, t, lo, hi', pp⟩ := q
      simp only [Qy.kind, Qy.field, Qy.text, Qy.low, Qy.high, Qy.parts] at c0 c1 c2 c3 c4 c5 hq hss HST
      clear hc hto hown
      go_wp2_with fail
      refine (HT.out kd f t lo hi' pp p c wr hq hss).mono ?_
      rintro e w2 ⟨p2, c2', rfl, hq2, hb2⟩
      have ho2 := HOW.out.kept (grown_none hb2) (Classical.em _)
      have ht2 : QTo w2 (w.heap.size + 1) d xs ps k := HTO.out.kept hb2.size (fun b _ h => hb2.block b h)
      have hq2' : QAt w2 (w.heap.size + 1) d p2 pp := hq2.base (by omega)
      obtain ⟨ho3, hg3⟩ := ho2.stored (k * 6) (.int .i64 kd)
      obtain ⟨ho4, hg4⟩ := ho3.stored (k * 6 + 1) (.string f)
      obtain ⟨ho5, hg5⟩ := ho4.stored (k * 6 + 2) (.string t)
      obtain ⟨ho6, hg6⟩ := ho5.stored (k * 6 + 3) (.int .i64 lo)
      obtain ⟨ho7, hg7⟩ := ho6.stored (k * 6 + 4) (.int .i64 hi')
      obtain ⟨ho8, hg8⟩ := ho7.stored (k * 6 + 5) (.slice p2 pp.length c2')
      have hg28 := grown_then (grown_then (grown_then (grown_then (grown_then hg3 hg4) hg5) hg6) hg7) hg8
      have HN : Hid (QTo _ (w.heap.size + 1) d _ ps (k + 1)) := HST.out _ p2 c2' (qto_grown ht2 hg28 (by omega)) (hq2'.kept hg28.size (fun b h1 h2 => hg28.block b h2 (by simp; omega)))
      have HB : Hid (Below w.heap.size w _) := (hbel.trans (hb2.mono hbel.size)).grown hg28 (by have := hbel.size; have := hb2.size; omega) (fun j hj => by cases hj; exact Nat.le_refl _)
      have HO8 : Hid _ := ho8
      have hd : ∀ j, j < 6 → ∃ u, w2.cell? ⟨w.heap.size, k * 6 + j, none⟩ = some u := fun j hj => by
        rw [ho2.cellAt (k * 6 + j) (by omega)]
        exact ⟨_, List.getElem?_eq_getElem (by omega)⟩
      obtain ⟨o0, d0⟩ := hd 0 (by omega)
      obtain ⟨o1, d1⟩ := hd 1 (by omega)
      obtain ⟨o2, d2⟩ := hd 2 (by omega)
      obtain ⟨o3, d3⟩ := hd 3 (by omega)
      obtain ⟨o4, d4⟩ := hd 4 (by omega)
      obtain ⟨o5, d5⟩ := hd 5 (by omega)
      rw [Nat.add_zero] at d0
      have f0 := ho2.frozenAt (k * 6)
      have f1 := ho2.frozenAt (k * 6 + 1)
      have f2 := ho2.frozenAt (k * 6 + 2)
      have f3 := ho2.frozenAt (k * 6 + 3)
      have f4 := ho2.frozenAt (k * 6 + 4)
      have f5 := ho2.frozenAt (k * 6 + 5)
      clear ho2 ho3 ho4 ho5 ho6 ho7 ho8 hg3 hg4 hg5 hg6 hg7 hg8 hg28 hd HST HTO HOW ht2 hq2 hq2' hb2 hbel c0 c1 c2 c3 c4 c5 hq hss
      go_wp2
      go_roundw
      case rel => exact ⟨k + 1, _, by omega, by go_num, HO8.out, HN.out, HB.out⟩
      case measure => simp [intOf]; omega
    · have hkl : k = ps.length := by omega
      subst hkl
      have HQ : Hid (QAt wr w.heap.size (d + 1) (some ⟨w.heap.size, 0, none⟩) ps) := owns_qRow hown hto (Nat.le_refl _)
      clear hown hto
      go_wp2
      go_ret
      exact ⟨_, _, rfl, HQ.out, hbel⟩
theorem toQS_zero : ToQS 0 := by
  intro ps a cap w ha _
  have hp : ps = [] := ha
  subst hp
  refine (toQueryS_nil a cap w).mono ?_
  rintro e w' ⟨p, c, rfl, hb⟩
  exact ⟨p, c, rfl, rfl, hb⟩
set_option maxHeartbeats 2000000 in
theorem toQ_of {d : Nat} (hS : ToQS d) : ToQ d := by
  intro k f t lo hi ps a c w ha hsz
  have HS : Hid (ToQS d) := hS
  have hb1 : Below w.heap.size w (w.alloc (.cells #[.int .i64 k, .string f, .string t, .int .i64 lo, .int .i64 hi, .slice a ps.length c] 28)) := (Below.refl _ w).alloc (Nat.le_refl _) _
  have hb2 := hb1.alloc hb1.size (.cells #[.int .i64 0, .string ⟨#[]⟩, .string ⟨#[]⟩, .int .i64 0, .int .i64 0, .slice none 0 0] 41)
  have hb3 := hb2.alloc hb2.size (.cells #[.int .i64 k, .string f, .string t, .int .i64 lo, .int .i64 hi, .slice none 0 0] 41)
  have ha3 := ha.below hb3
  have BZ := (Blk.new (w.alloc (.cells #[.int .i64 k, .string f, .string t, .int .i64 lo, .int .i64 hi, .slice a ps.length c] 28)) #[.int .i64 0, .string ⟨#[]⟩, .string ⟨#[]⟩, .int .i64 0, .int .i64 0, .slice none 0 0] 41).alloc (.cells #[.int .i64 k, .string f, .string t, .int .i64 lo, .int .i64 hi, .slice none 0 0] 41)
  have BO := Blk.new ((w.alloc (.cells #[.int .i64 k, .string f, .string t, .int .i64 lo, .int .i64 hi, .slice a ps.length c] 28)).alloc (.cells #[.int .i64 0, .string ⟨#[]⟩, .string ⟨#[]⟩, .int .i64 0, .int .i64 0, .slice none 0 0] 41)) #[.int .i64 k, .string f, .string t, .int .i64 lo, .int .i64 hi, .slice none 0 0] 41
  have hs3 : (((w.alloc (.cells #[.int .i64 k, .string f, .string t, .int .i64 lo, .int .i64 hi, .slice a ps.length c] 28)).alloc (.cells #[.int .i64 0, .string ⟨#[]⟩, .string ⟨#[]⟩, .int .i64 0, .int .i64 0, .slice none 0 0] 41)).alloc (.cells #[.int .i64 k, .string f, .string t, .int .i64 lo, .int .i64 hi, .slice none 0 0] 41)).heap.size = w.heap.size + 3 := by simp
  rw [show (w.alloc (.cells #[.int .i64 k, .string f, .string t, .int .i64 lo, .int .i64 hi, .slice a ps.length c] 28)).heap.size = w.heap.size + 1 by simp] at BZ
  rw [show ((w.alloc (.cells #[.int .i64 k, .string f, .string t, .int .i64 lo, .int .i64 hi, .slice a ps.length c] 28)).alloc (.cells #[.int .i64 0, .string ⟨#[]⟩, .string ⟨#[]⟩, .int .i64 0, .int .i64 0, .slice none 0 0] 41)).heap.size = w.heap.size + 1 + 1 by simp] at BO
  clear hS ha
  go_enter Tryz.func16, Tryz.ntmps16
  go_wp2_with fail
  generalize ((w.alloc (.cells #[.int .i64 k, .string f, .string t, .int .i64 lo, .int .i64 hi, .slice a ps.length c] 28)).alloc (.cells #[.int .i64 0, .string ⟨#[]⟩, .string ⟨#[]⟩, .int .i64 0, .int .i64 0, .slice none 0 0] 41)).alloc (.cells #[.int .i64 k, .string f, .string t, .int .i64 lo, .int .i64 hi, .slice none 0 0] 41) = w3 at *
  refine (HS.out ps a c _ ha3 hsz).mono ?_
  rintro e w4 ⟨p, c', rfl, hq, hb4⟩
  have hbw : Below w.heap.size w w4 := hb3.trans (hb4.mono hb3.size)
  have BZ4 := BZ.below hb4 (by omega)
  have BO4 := BO.below hb4 (by omega)
  have z0 := BZ4.cell 0
  have z1 := BZ4.cell 1
  have z2 := BZ4.cell 2
  have z3 := BZ4.cell 3
  have z4 := BZ4.cell 4
  have z5 := BZ4.cell 5
  have y0 := BO4.cell 0
  have y1 := BO4.cell 1
  have y2 := BO4.cell 2
  have y3 := BO4.cell 3
  have y4 := BO4.cell 4
  have y5 := BO4.cell 5
  have f0 := BZ4.frozen 0
  have f1 := BZ4.frozen 1
  have f2 := BZ4.frozen 2
  have f3 := BZ4.frozen 3
  have f4 := BZ4.frozen 4
  have f5 := BZ4.frozen 5
  have g5 := BO4.frozen 5
  simp at z0 z1 z2 z3 z4 z5 y0 y1 y2 y3 y4 y5
  rw [hs3] at hq
  have HQ : Hid (QAt w4 (w.heap.size + 3) d p ps) := hq
  clear hb1 hb2 hb3 ha3 BZ BO hb4 BZ4 BO4 hq hs3
  go_wp2
  refine bodyPost_ret (v := .agg #[.int .i64 k, .string f, .string t, .int .i64 lo, .int .i64 hi, .slice p ps.length c']) (by simp [results, Tryz.results16, go_sem, z0, z1, z2, z3, z4, z5]) rfl ⟨p, c', rfl, ?_, ?_⟩
  · refine QAt.base (B := w.heap.size + 3) (by omega) ?_
    exact (((((((HQ.out.set (by simp) _).set (by simp) _).set (by simp) _).set (by simp) _).set (by simp) _).set (by simp) _).set (by simp) _)
  · exact (((((((hbw.setCell (by simp; omega) _).setCell (by simp) _).setCell (by simp) _).setCell (by simp) _).setCell (by simp) _).setCell (by simp) _).setCell (by simp) _)
/-- A tree is copied. -/
theorem toQ_any : ∀ d, ToQ d ∧ ToQS d
  | 0 => ⟨toQ_of toQS_zero, toQS_zero⟩
  | d + 1 => ⟨toQ_of (toQS_step (toQ_any d).1), toQS_step (toQ_any d).1⟩
end Go.Proofs.YtjkimadnopeakaaGreatDoor
