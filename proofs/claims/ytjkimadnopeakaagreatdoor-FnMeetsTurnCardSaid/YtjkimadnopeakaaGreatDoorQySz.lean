/- laws.szQuery and laws.eqQuery: a tree is measured; two of the same are the same. -/
import Derived.Test.YtjkimadnopeakaaGreatDoorQyTo
import Derived.Test.YtjkimadnopeakaaGreatDoorQyOwn
namespace Go.Proofs.YtjkimadnopeakaaGreatDoor
open Go.RowKit
set_option linter.unusedVariables false

def SzQ (d : Nat) : Prop := ∀ (k : Int) (f t : ByteArray) (lo hi : Int) (ps : List Qy) (a : Option Addr) (c : Nat) (left : Int) (w : World), QAt w 0 d a ps → QSz maxLen d ps → f.size ≤ maxLen → t.size ≤ maxLen → 0 ≤ left → left ≤ 1048576 →
  Calls Tryz.prog 12 #[.agg #[.int .i64 k, .string f, .string t, .int .i64 lo, .int .i64 hi, .slice a ps.length c], .int .i64 left] w fun e w' => ∃ r : Int, e = .returned (.int .i64 r) ∧ -1 ≤ r ∧ r ≤ left ∧ (0 ≤ r → f.size ≤ 1048576 ∧ t.size ≤ 1048576 ∧ QSz 1048576 d ps ∧ (qcnt d ps : Int) ≤ 5 * (left - r)) ∧ Below w.heap.size w w'
def SzQS (d : Nat) : Prop := ∀ (ps : List Qy) (a : Option Addr) (c : Nat) (left : Int) (w : World), QAt w 0 d a ps → QSz maxLen d ps → 0 ≤ left → left ≤ 1048576 →
  Calls Tryz.prog 38 #[.slice a ps.length c, .int .i64 left] w fun e w' => ∃ r : Int, e = .returned (.int .i64 r) ∧ -1 ≤ r ∧ r ≤ left ∧ (0 ≤ r → QSz 1048576 d ps ∧ (qcnt d ps : Int) ≤ 5 * (left - r)) ∧ Below w.heap.size w w'
theorem szQS_zero : SzQS 0 := by
  intro ps a c left w ha _ h0 h1
  have hp : ps = [] := ha
  subst hp
  have hd : decide (left < 0) = false := decide_eq_false (by omega)
  go_enter Tryz.func38, Tryz.ntmps38
  go_wp2
  refine wp_loop_rounds 1 ?_
  rw [rounds_succ]
  go_wp2
  go_ret
  exact ⟨left, rfl, by omega, by omega, fun _ => ⟨rfl, by show ((0 : Nat) : Int) ≤ _; omega⟩, Below.refl _ _⟩
set_option maxRecDepth 100000 in
set_option maxHeartbeats 2000000 in
theorem szQS_step {d : Nat} (hT : SzQ d) : SzQS (d + 1) := by
  intro ps a cap left0 w ha hsz h00 h01
  have HT : Hid (SzQ d) := hT
  have HA : Hid (∀ wx, Below w.heap.size w wx → QAt wx 0 (d + 1) a ps) := fun wx h => ha.below h
  have hz := hsz.len
  unfold maxLen at hz
  have HS : Hid (∀ i, i < ps.length → (qat ps i).field.size ≤ maxLen ∧ (qat ps i).text.size ≤ maxLen ∧ QSz maxLen d (qat ps i).parts) := fun i hi => hsz.2 i hi
  clear ha hsz hT
  by_cases hbig : left0 - (ps.length : Int) < 0
  · go_enter Tryz.func38, Tryz.ntmps38
    go_wp2
    go_ret
    exact ⟨-1, rfl, by omega, by omega, fun h => by omega, Below.refl _ _⟩
  have hbd : decide (left0 - (ps.length : Int) < 0) = false := by simpa using hbig
  go_enter Tryz.func38, Tryz.ntmps38
  go_wp2
  go_loopw [1, 5] (fun l i wr => ∃ (k : Nat) (left : Int), k ≤ ps.length ∧ i = .int .i64 k ∧ l = .int .i64 left ∧ 0 ≤ left ∧ left ≤ left0 ∧ (∀ j, j < k → (qat ps j).field.size ≤ 1048576 ∧ (qat ps j).text.size ≤ 1048576 ∧ QSz 1048576 d (qat ps j).parts) ∧ (qsum (cntf d ps) k : Int) ≤ 5 * (left0 - (ps.length : Int) - left) + 5 * (k : Int) ∧ Below w.heap.size w wr) (fun _ i _ => ps.length - (intOf i).toNat)
  case atStart => exact ⟨0, left0 - ps.length, Nat.zero_le _, rfl, rfl, by omega, by omega, fun j hj => by omega, by show ((0 : Nat) : Int) ≤ _; omega, Below.refl _ _⟩
  case round =>
    obtain ⟨k, left, hk, rfl, rfl, hl0, hl1, hj, hqs, hbel⟩ := hrel
    have HQS : Hid ((qsum (cntf d ps) k : Int) ≤ 5 * (left0 - (ps.length : Int) - left) + 5 * (k : Int)) := hqs
    have HQ1 : Hid (qsum (cntf d ps) (k + 1) = qsum (cntf d ps) k + (5 + qcnt d (qat ps k).parts)) := rfl
    clear hqs
    have HJ : Hid (∀ j, j < k → (qat ps j).field.size ≤ 1048576 ∧ (qat ps j).text.size ≤ 1048576 ∧ QSz 1048576 d (qat ps j).parts) := hj
    clear hj
    by_cases hlt : k < ps.length
    · have hkl : (k : Int) < (ps.length : Int) := by omega
      obtain ⟨g, off, rfl, _, hg, hc⟩ := (HA.out wr hbel) (by omega)
      obtain ⟨p, c, ⟨c0, c1, c2, c3, c4, c5⟩, hq⟩ := hc k hlt
      obtain ⟨s1, s2, s3⟩ := HS.out k hlt
      have HJK : Hid ((qat ps k).field.size ≤ 1048576 ∧ (qat ps k).text.size ≤ 1048576 ∧ QSz 1048576 d (qat ps k).parts → ∀ j, j < k + 1 → (qat ps j).field.size ≤ 1048576 ∧ (qat ps j).text.size ≤ 1048576 ∧ QSz 1048576 d (qat ps j).parts) := fun h j hj => by
        by_cases e : j = k
        · subst e; exact h
        · exact HJ.out j (by omega)
      generalize qat ps k = q at *
      obtain ⟨kd, f, t, lo, hi', pp⟩ := q
      simp only [Qy.kind, Qy.field, Qy.text, Qy.low, Qy.high, Qy.parts] at c0 c1 c2 c3 c4 c5 hq s1 s2 s3 HJK
      clear hc
      go_wp2_with fail
      refine (HT.out kd f t lo hi' pp p c left wr hq s3 s1 s2 hl0 (by omega)).mono ?_
      rintro e w2 ⟨r, rfl, hr0, hr1, hr2, hb2⟩
      have hb3 := hbel.trans (hb2.mono hbel.size)
      have HR2 : Hid (0 ≤ r → f.size ≤ 1048576 ∧ t.size ≤ 1048576 ∧ QSz 1048576 d pp) := fun h => ⟨(hr2 h).1, (hr2 h).2.1, (hr2 h).2.2.1⟩
      have HC2 : Hid (0 ≤ r → (qcnt d pp : Int) ≤ 5 * (left - r)) := fun h => (hr2 h).2.2.2
      have HQ3 : Hid (qsum (cntf d ps) (k + 1) = qsum (cntf d ps) k + (5 + qcnt d pp)) := HQ1.out
      clear c0 c1 c2 c3 c4 c5 hq s1 s2 s3 hr2 hb2
      by_cases hneg : r < 0
      · go_wp2
        go_ret
        exact ⟨-1, rfl, by omega, by omega, fun h => by omega, hb3⟩
      · have hnd : decide (r < 0) = false := by simpa using hneg
        go_wp2
        go_roundw
        case rel => exact ⟨k + 1, r, by omega, by go_num, rfl, by omega, by omega, HJK.out (HR2.out (by omega)), by have h1 := HC2.out (by omega); have h2 := HQS.out; have h3 := HQ3.out; omega, hb3⟩
        case measure => simp [intOf]; omega
    · have hkl : k = ps.length := by omega
      subst hkl
      go_wp2
      go_ret
      exact ⟨left, rfl, by omega, hl1, fun _ => ⟨⟨by omega, HJ.out⟩, by have h2 := HQS.out; show (qsum (cntf d ps) ps.length : Int) ≤ _; omega⟩, hbel⟩
set_option maxHeartbeats 1000000 in
theorem szQ_of {d : Nat} (hS : SzQS d) : SzQ d := by
  intro k f t lo hi ps a c left w ha hsz hf ht h0 h1
  have HS : Hid (SzQS d) := hS
  have hb1 : Below w.heap.size w (w.alloc (.cells #[.int .i64 k, .string f, .string t, .int .i64 lo, .int .i64 hi, .slice a ps.length c] 28)) := (Below.refl _ w).alloc (Nat.le_refl _) _
  have ha1 := ha.below hb1
  unfold maxLen at hf ht
  clear hS ha
  by_cases h2 : left - (f.size : Int) < 0
  · go_enter Tryz.func12, Tryz.ntmps12
    go_wp2
    go_ret
    exact ⟨-1, rfl, by omega, by omega, fun h => by omega, hb1⟩
  · have h2d : decide (left - (f.size : Int) < 0) = false := decide_eq_false h2
    by_cases h3 : left - (f.size : Int) - (t.size : Int) < 0
    · go_enter Tryz.func12, Tryz.ntmps12
      go_wp2
      go_ret
      exact ⟨-1, rfl, by omega, by omega, fun h => by omega, hb1⟩
    · have h3d : decide (left - (f.size : Int) - (t.size : Int) < 0) = false := decide_eq_false h3
      go_enter Tryz.func12, Tryz.ntmps12
      go_wp2_with fail
      refine (HS.out ps a c _ _ ha1 hsz (by omega) (by omega)).mono ?_
      rintro e w2 ⟨r, rfl, hr0, hr1, hr2, hb2⟩
      have hbw := hb1.trans (hb2.mono hb1.size)
      have HR2 : Hid (0 ≤ r → QSz 1048576 d ps) := fun h => (hr2 h).1
      have HC2 : Hid (0 ≤ r → (qcnt d ps : Int) ≤ 5 * (left - (f.size : Int) - (t.size : Int) - r)) := fun h => (hr2 h).2
      clear hr2 hb2 ha1 hb1
      by_cases hneg : r < 0
      · go_wp2
        go_ret
        exact ⟨-1, rfl, by omega, by omega, fun h => by omega, hbw⟩
      · have hnd : decide (r < 0) = false := by simpa using hneg
        go_wp2
        go_ret
        exact ⟨r, rfl, by omega, by omega, fun h => ⟨by omega, by omega, HR2.out h, by have := HC2.out h; omega⟩, hbw⟩
/-- A tree is measured. -/
theorem szQ_any : ∀ d, SzQ d ∧ SzQS d
  | 0 => ⟨szQ_of szQS_zero, szQS_zero⟩
  | d + 1 => ⟨szQ_of (szQS_step (szQ_any d).1), szQS_step (szQ_any d).1⟩

def EqQ (d : Nat) : Prop := ∀ (k : Int) (f t : ByteArray) (lo hi : Int) (ps : List Qy) (a b : Option Addr) (c c' : Nat) (w : World), QAt w 0 d a ps → QAt w 0 d b ps → QSz 1048576 d ps →
  Calls Tryz.prog 20 #[.agg #[.int .i64 k, .string f, .string t, .int .i64 lo, .int .i64 hi, .slice a ps.length c], .agg #[.int .i64 k, .string f, .string t, .int .i64 lo, .int .i64 hi, .slice b ps.length c']] w fun e w' => e = .returned (.bool true) ∧ Below w.heap.size w w'
def EqQS (d : Nat) : Prop := ∀ (ps : List Qy) (a b : Option Addr) (c c' : Nat) (w : World), QAt w 0 d a ps → QAt w 0 d b ps → QSz 1048576 d ps →
  Calls Tryz.prog 46 #[.slice a ps.length c, .slice b ps.length c'] w fun e w' => e = .returned (.bool true) ∧ Below w.heap.size w w'
theorem eqQS_zero : EqQS 0 := by
  intro ps a b c c' w ha _ _
  have hp : ps = [] := ha
  subst hp
  go_enter Tryz.func46, Tryz.ntmps46
  go_wp2
  refine wp_loop_rounds 1 ?_
  rw [rounds_succ]
  go_wp2
  go_ret
  exact ⟨rfl, Below.refl _ _⟩
set_option maxRecDepth 100000 in
set_option maxHeartbeats 2000000 in
theorem eqQS_step {d : Nat} (hT : EqQ d) : EqQS (d + 1) := by
  intro ps a b ca cb w ha hb hsz
  have HT : Hid (EqQ d) := hT
  have HA : Hid (∀ wx, Below w.heap.size w wx → QAt wx 0 (d + 1) a ps) := fun wx h => ha.below h
  have HB : Hid (∀ wx, Below w.heap.size w wx → QAt wx 0 (d + 1) b ps) := fun wx h => hb.below h
  have hz := hsz.len
  have HS : Hid (∀ i, i < ps.length → QSz 1048576 d (qat ps i).parts) := fun i hi => (hsz.2 i hi).2.2
  clear ha hb hsz hT
  go_enter Tryz.func46, Tryz.ntmps46
  go_wp2
  go_loopw [5] (fun i wr => ∃ k : Nat, k ≤ ps.length ∧ i = .int .i64 k ∧ Below w.heap.size w wr) (fun i _ => ps.length - (intOf i).toNat)
  case atStart => exact ⟨0, Nat.zero_le _, rfl, Below.refl _ _⟩
  case round =>
    obtain ⟨k, hk, rfl, hbel⟩ := hrel
    by_cases hlt : k < ps.length
    · have hki : (k : Int) < (ps.length : Int) := by omega
      obtain ⟨g1, o1, rfl, _, hg1, hc1⟩ := (HA.out wr hbel) (by omega)
      obtain ⟨g2, o2, rfl, _, hg2, hc2⟩ := (HB.out wr hbel) (by omega)
      obtain ⟨p1, e1, ⟨c0, c1, c2, c3, c4, c5⟩, hq1⟩ := hc1 k hlt
      obtain ⟨p2, e2, ⟨d0, d1, d2, d3, d4, d5⟩, hq2⟩ := hc2 k hlt
      have hss := HS.out k hlt
      generalize qat ps k = q at *
      obtain ⟨kd, f, t, lo, hi', pp⟩ := q
      simp only [Qy.kind, Qy.field, Qy.text, Qy.low, Qy.high, Qy.parts] at c0 c1 c2 c3 c4 c5 d0 d1 d2 d3 d4 d5 hq1 hq2 hss
      clear hc1 hc2
      go_wp2
      go_region_with (go_at_call 20; refine (HT.out kd f t lo hi' pp p1 p2 e1 e2 _ (by exact hq1.below (below_drew (Below.refl _ _))) (by exact hq2.below (below_drew (Below.refl _ _))) hss).mono ?_; rintro e w2 ⟨rfl, hb2d⟩; have hb2 : Below wr.heap.size wr w2 := ⟨hb2d.os, hb2d.tape, hb2d.output, hb2d.size, hb2d.block⟩; clear hb2d)
      all_goals
        go_wp2
        go_roundw
        case rel => exact ⟨k + 1, by omega, by go_num, hbel.trans (hb2.mono hbel.size)⟩
        case measure => simp [intOf]; omega
    · have hkl : k = ps.length := by omega
      subst hkl
      go_wp2
      go_ret
      exact ⟨rfl, hbel⟩
set_option maxHeartbeats 1000000 in
theorem eqQ_of {d : Nat} (hS : EqQS d) : EqQ d := by
  intro k f t lo hi ps a b c c' w ha hb hsz
  have HS : Hid (EqQS d) := hS
  have hb1 : Below w.heap.size w (w.alloc (.cells #[.int .i64 k, .string f, .string t, .int .i64 lo, .int .i64 hi, .slice a ps.length c] 41)) := (Below.refl _ w).alloc (Nat.le_refl _) _
  have hb2 := hb1.alloc hb1.size (.cells #[.int .i64 k, .string f, .string t, .int .i64 lo, .int .i64 hi, .slice b ps.length c'] 41)
  have ha2 := ha.below hb2
  have hbb := hb.below hb2
  clear hS ha hb
  go_enter Tryz.func20, Tryz.ntmps20
  go_wp2_with fail
  refine (HS.out ps a b c c' _ ha2 hbb hsz).mono ?_
  rintro e w3 ⟨rfl, hb3⟩
  have hbw := hb2.trans (hb3.mono hb2.size)
  clear ha2 hbb hb1 hb2 hb3
  go_wp2
  go_ret
  exact ⟨rfl, hbw⟩
theorem eqQ_any : ∀ d, EqQ d ∧ EqQS d
  | 0 => ⟨eqQ_of eqQS_zero, eqQS_zero⟩
  | d + 1 => ⟨eqQ_of (eqQS_step (eqQ_any d).1), eqQS_step (eqQ_any d).1⟩
end Go.Proofs.YtjkimadnopeakaaGreatDoor
