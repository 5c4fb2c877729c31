/- How great hits are; two slices of the same hits are the same. -/
import Derived.Test.YtfnigdecmecoaaaHits
namespace Go.Proofs.Ytfnigdecmecoaaa
open Go.RowKit
def HtsSmall (fs : List Ht) : Prop := ∀ i, i < fs.length → (hat fs i).name.size ≤ 1048576

theorem szHit_any (n : ByteArray) (k x : Int) (left : Int) (w : World) (hn : n.size ≤ maxLen) (h0 : 0 ≤ left) (h1 : left ≤ 1048576) :
    Calls Try.prog 22 #[.agg #[.int .i64 k, .string n, .int .i64 x], .int .i64 left] w fun e w' => ∃ r : Int, e = .returned (.int .i64 r) ∧ r ≤ left ∧ (0 ≤ r → (n.size : Int) ≤ left) ∧ Below w.heap.size w w' := by
  unfold maxLen at hn
  by_cases hlt : left - (n.size : Int) < 0
  · go_enter Try.func22, Try.ntmps22
    go_wp2
    go_ret
    exact ⟨-1, rfl, by omega, fun h => by omega, (Below.refl _ w).alloc (Nat.le_refl _) _⟩
  · have hd : decide (left - (n.size : Int) < 0) = false := by simpa using hlt
    go_enter Try.func22, Try.ntmps22
    go_wp2
    go_ret
    exact ⟨left - n.size, rfl, by omega, fun h => by omega, (Below.refl _ w).alloc (Nat.le_refl _) _⟩

set_option maxHeartbeats 1000000 in
theorem szHitS_any (a : Option Addr) (cap : Nat) (fs : List Ht) (w : World) (hz : fs.length ≤ maxLen) (hsm : ∀ i, i < fs.length → (hat fs i).name.size ≤ maxLen) (hr : HtRow w a fs) :
    Calls Try.prog 10 #[.slice a fs.length cap, .int .i64 1048576] w fun e w' => ∃ r : Int, e = .returned (.int .i64 r) ∧ (0 ≤ r → fs.length ≤ 1048576 ∧ HtsSmall fs) ∧ Below w.heap.size w w' := by
  unfold maxLen at hz
  by_cases hbig : 1048576 - (fs.length : Int) < 0
  · clear hr hsm
    go_enter Try.func10, Try.ntmps10
    go_wp2
    go_ret
    exact ⟨-1, rfl, fun h => by omega, Below.refl _ _⟩
  have hbd : decide (1048576 - (fs.length : Int) < 0) = false := by simpa using hbig
  go_enter Try.func10, Try.ntmps10
  go_wp2
  go_loopw [1, 5] (fun l i wr => ∃ (k : Nat) (left : Int), k ≤ fs.length ∧ i = .int .i64 k ∧ l = .int .i64 left ∧ 0 ≤ left ∧ left ≤ 1048576 ∧ (∀ j, j < k → (hat fs j).name.size ≤ 1048576) ∧ Below w.heap.size w wr) (fun _ i _ => fs.length - (intOf i).toNat)
  case atStart => exact ⟨0, 1048576 - fs.length, Nat.zero_le _, rfl, rfl, by omega, by omega, fun j hj => by omega, Below.refl _ _⟩
  case round =>
    obtain ⟨k, left, hk, rfl, rfl, hl0, hl1, hj, hbel⟩ := hrel
    have HJ : Hid (∀ j, j < k → (hat fs j).name.size ≤ 1048576) := hj
    clear hj
    by_cases hlt : k < fs.length
    · have hkl : (k : Int) < (fs.length : Int) := by omega
      obtain ⟨g, off, rfl, hg, hc⟩ := (hr.below hbel) (by omega)
      obtain ⟨c0, c1, c2⟩ := hc k hlt
      have hs := hsm k hlt
      have HJK : Hid ((hat fs k).name.size ≤ 1048576 → ∀ j, j < k + 1 → (hat fs j).name.size ≤ 1048576) := fun h j hj => by
        by_cases e : j = k
        · subst e; exact h
        · exact HJ.out j (by omega)
      generalize hat fs k = fd at *
      obtain ⟨nm, kd, wt⟩ := fd
      simp only at c0 c1 c2 hs HJK
      clear hr hc hsm
      go_wp2_with fail
      refine (szHit_any nm kd wt left _ hs hl0 hl1).mono ?_
      rintro e w2 ⟨r, rfl, hr1, hr2, hb2⟩
      have hb3 := hbel.trans (hb2.mono hbel.size)
      clear c0 c1 c2
      by_cases hneg : r < 0
      · go_wp2
        go_ret
        exact ⟨-1, rfl, fun h => by omega, hb3⟩
      · have hnd : decide (r < 0) = false := by simpa using hneg
        go_wp2
        go_roundw
        case rel => exact ⟨k + 1, r, by omega, by go_num, rfl, by omega, by omega, HJK.out (by have := hr2 (by omega); omega), hb3⟩
        case measure => simp [intOf]; omega
    · have hkl : k = fs.length := by omega
      subst hkl
      clear hr hsm
      go_wp2
      go_ret
      exact ⟨left, rfl, fun _ => ⟨by omega, HJ.out⟩, hbel⟩

theorem eqHit_same (t : ByteArray) (x y : Int) (w : World) :
    Calls Try.prog 24 #[.agg #[.int .i64 x, .string t, .int .i64 y], .agg #[.int .i64 x, .string t, .int .i64 y]] w fun e w' => e = .returned (.bool true) ∧ Below w.heap.size w w' := by
  go_enter Try.func24, Try.ntmps24
  go_wp2
  go_ret
  exact ⟨rfl, ((Below.refl _ w).alloc (Nat.le_refl _) _).alloc (by simp) _⟩

set_option maxHeartbeats 1000000 in
theorem eqHitS_same (a b : Option Addr) (ca cb : Nat) (fs : List Ht) (w : World) (hl : fs.length ≤ 1099511627) (ha : HtRow w a fs) (hb : HtRow w b fs) :
    Calls Try.prog 12 #[.slice a fs.length ca, .slice b fs.length cb] w fun e w' => e = .returned (.bool true) ∧ Below w.heap.size w w' := by
  go_enter Try.func12, Try.ntmps12
  go_wp2
  go_loopw [5] (fun i wr => ∃ k : Nat, k ≤ fs.length ∧ i = .int .i64 k ∧ Below w.heap.size w wr) (fun i _ => fs.length - (intOf i).toNat)
  case atStart => exact ⟨0, Nat.zero_le _, rfl, Below.refl _ _⟩
  case round =>
    obtain ⟨k, hk, rfl, hbel⟩ := hrel
    by_cases hlt : k < fs.length
    · obtain ⟨g1, o1, rfl, hg1, hc1⟩ := (ha.below hbel) (by omega)
      obtain ⟨g2, o2, rfl, hg2, hc2⟩ := (hb.below hbel) (by omega)
      obtain ⟨r0, r1, r2⟩ := hc1 k hlt
      obtain ⟨s0, s1, s2⟩ := hc2 k hlt
      clear ha hb hc1 hc2
      generalize hat fs k = fd at *
      obtain ⟨t, x, y⟩ := fd
      simp only at r0 r1 r2 s0 s1 s2
      go_wp2
      go_region_with (go_at_call 24; refine (eqHit_same t x y _).mono ?_; rintro e w2 ⟨rfl, hb2d⟩; have hb2 : Below wr.heap.size wr w2 := ⟨hb2d.os, hb2d.tape, hb2d.output, hb2d.size, hb2d.block⟩; clear hb2d)
      all_goals
        go_wp2
        go_roundw
        case rel => exact ⟨k + 1, by omega, by go_num, hbel.trans (hb2.mono hbel.size)⟩
        case measure => simp [intOf]; omega
    · clear ha hb
      go_wp2
      go_ret
      exact ⟨rfl, hbel⟩
end Go.Proofs.Ytfnigdecmecoaaa
