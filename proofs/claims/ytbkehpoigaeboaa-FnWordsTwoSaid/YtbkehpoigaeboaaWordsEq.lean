/- eqWordS tells that two slices of the same words are the same; markWordS lays marks into such a row; heldWordS finds them. -/
import Derived.Test.YtbkehpoigaeboaaTermsS
import Derived.Test.YtbkehpoigaeboaaMarkStr
namespace Go.Proofs.Ytbkehpoigaeboaa
open Go.RowKit

theorem eqWord_same (t : ByteArray) (x y : Int) (w : World) :
    Calls Try.prog 53 #[.agg #[.string t, .int .i64 x, .int .i64 y], .agg #[.string t, .int .i64 x, .int .i64 y]] w fun e w' => e = .returned (.bool true) ∧ Below w.heap.size w w' := by
  go_enter Try.func53, Try.ntmps53
  go_wp2
  go_ret
  exact ⟨rfl, ((Below.refl _ w).alloc (Nat.le_refl _) _).alloc (by simp) _⟩

set_option maxHeartbeats 1000000 in
theorem eqWordS_same (a b : Option Addr) (ca cb : Nat) (s : ByteArray) (l : List (Nat × Nat)) (w : World) (hl : l.length ≤ 1099511627) (ha : WordRow w a s l) (hb : WordRow w b s l) :
    Calls Try.prog 30 #[.slice a l.length ca, .slice b l.length cb] w fun e w' => e = .returned (.bool true) ∧ Below w.heap.size w w' := by
  go_enter Try.func30, Try.ntmps30
  go_wp2
  go_loopw [5] (fun i wr => ∃ k : Nat, k ≤ l.length ∧ i = .int .i64 k ∧ Below w.heap.size w wr) (fun i _ => l.length - (intOf i).toNat)
  case atStart => exact ⟨0, Nat.zero_le _, rfl, Below.refl _ _⟩
  case round =>
    obtain ⟨k, hk, rfl, hbel⟩ := hrel
    by_cases hlt : k < l.length
    · obtain ⟨g1, rfl, hg1, hc1⟩ := ha (by omega)
      obtain ⟨g2, rfl, hg2, hc2⟩ := hb (by omega)
      obtain ⟨p0, p1, p2⟩ := hc1 k hlt
      obtain ⟨q0, q1, q2⟩ := hc2 k hlt
      have r0 := (hbel.cell (p := ⟨g1, k * 3, none⟩) hg1).trans p0
      have r1 := (hbel.cell (p := ⟨g1, k * 3 + 1, none⟩) hg1).trans p1
      have r2 := (hbel.cell (p := ⟨g1, k * 3 + 2, none⟩) hg1).trans p2
      have s0 := (hbel.cell (p := ⟨g2, k * 3, none⟩) hg2).trans q0
      have s1 := (hbel.cell (p := ⟨g2, k * 3 + 1, none⟩) hg2).trans q1
      have s2 := (hbel.cell (p := ⟨g2, k * 3 + 2, none⟩) hg2).trans q2
      clear ha hb hc1 hc2 p0 p1 p2 q0 q1 q2
      generalize s.extract l[k].1 l[k].2 = t at *
      generalize ((l[k].1 : Nat) : Int) = x at *
      generalize ((l[k].2 : Nat) : Int) = y at *
      go_wp2
      go_region_with (go_at_call 53; refine (eqWord_same t x y _).mono ?_; rintro e w2 ⟨rfl, hb2d⟩; have hb2 : Below wr.heap.size wr w2 := ⟨hb2d.os, hb2d.tape, hb2d.output, hb2d.size, hb2d.block⟩; clear hb2d)
      all_goals
        go_wp2
        go_roundw
        case rel => exact ⟨k + 1, by omega, by go_num, hbel.trans (hb2.mono hbel.size)⟩
        case measure => simp [intOf]; omega
    · clear ha hb
      go_wp2
      go_ret
      exact ⟨rfl, hbel⟩
end Go.Proofs.Ytbkehpoigaeboaa
