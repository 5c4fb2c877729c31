/- The walk of the law FnWords. -/
import Derived.Test.YtbkehpoigaeboaaWExactWords
import Derived.Test.YtbkehpoigaeboaaDrawMore
import Derived.Laws.StructEq
namespace Go.Proofs.Ytbkehpoigaeboaa
open Go.RowKit

/-- Words stand in order, none touching the next. -/
theorem wordsOn_first (s : ByteArray) : ∀ n i, s.size - i ≤ n → ∀ x ∈ wordsOn s i, i ≤ x.1 := fun n i h x hx => (wordsOn_mem s n i h x hx).1
theorem wordsOn_apart (s : ByteArray) : ∀ n i, s.size - i ≤ n → ∀ k (h : k + 1 < (wordsOn s i).length), ((wordsOn s i)[k]'(by omega)).2 < (wordsOn s i)[k + 1].1
  | 0, i, hn, k, h => by rw [wordsOn_past s i (by omega)] at h; simp at h
  | n + 1, i, hn, k, h => by
    by_cases hlt : i < s.size
    · have r := wordEnd_end s i (by omega)
      by_cases he : wordEnd s i = i
      · have e := wordsOn_none s i hlt he
        have ih := wordsOn_apart s n (i + 1) (by omega) k (by rw [← e]; exact h)
        simp only [e]
        exact ih
      · have e : wordsOn s i = (i, wordEnd s i) :: wordsOn s (wordEnd s i + 1) := by rw [wordsOn_word s i hlt he, wordsOn_skip s _ r.size (wordEnd_again s i (by omega))]
        have hle := r.le
        cases k with
        | zero =>
          simp only [e, List.getElem_cons_zero, List.getElem_cons_succ]
          have hl : 0 < (wordsOn s (wordEnd s i + 1)).length := by rw [e] at h; simpa using h
          have := wordsOn_first s n (wordEnd s i + 1) (by omega) _ (List.getElem_mem (l := wordsOn s (wordEnd s i + 1)) hl)
          omega
        | succ k =>
          have ih := wordsOn_apart s n (wordEnd s i + 1) (by omega) k (by rw [e] at h; simpa using h)
          simp only [e, List.getElem_cons_succ]
          exact ih
    · rw [wordsOn_past s i hlt] at h; simp at h

theorem neqWord (t : ByteArray) (x y : Int) (w : World) : (binOp .neq 29 (.agg #[.string t, .int .i64 x, .int .i64 y]) (.agg #[.string t, .int .i64 x, .int .i64 y])).run Try.prog w = .ok (.bool false) w := by
  have hS : Try.prog.underlying 29 = some (.struct (Try.prog.fieldsOf 29)) := by kernel_rfl
  have hp : Try.prog.stoodInHeld 29 = false := by kernel_rfl
  have u3 := Try.underlying3
  have u9 := Try.underlying9
  have z3 := Try.isAgg3
  have z9 := Try.isAgg9
  have s3 := Try.sizeOf3
  have s9 := Try.sizeOf9
  rw [run_neq_struct, show (10000 : Nat) = 9999 + 1 from rfl, run_equalIn_agg w 9999 29 _ _ hS hp]
  simp only [Program.fieldsOf, Try.underlying29]
  go_simp

set_option maxHeartbeats 600000 in
theorem wFnWords (a0 : Option Addr) (len0 cap0 : Nat) (w : World) (b0 : BytesIn w a0 len0 cap0) :
    Calls Try.prog 4 #[.slice a0 len0 cap0] w fun e w' => e = .returned (.bool true) ∧ Below w.heap.size w w' := by
  have m0 := b0.le
  have m1 := b0.max
  unfold maxLen at m1
  by_cases hbig0 : 1048576 < (len0 : Int)
  · go_enter Try.func4, Try.ntmps4
    go_wp2
    go_ret
    exact ⟨rfl, Below.refl _ _⟩
  go_enter Try.func4, Try.ntmps4
  go_wp2_with fail
  refine (drawWords_any _ _ _ _ b0).mono ?_
  rintro e u1 ⟨s, rfl, hs, hb1⟩
  clear b0
  have hNw := wordsOn_len s s.size 0 (by omega)
  have HM : Hid (∀ x ∈ wordsOn s 0, 0 ≤ x.1 ∧ x.1 < x.2 ∧ x.2 ≤ s.size ∧ x.2 = wordEnd s x.1) := wordsOn_mem s s.size 0 (by omega)
  have HA : Hid (∀ k (h : k + 1 < (wordsOn s 0).length), ((wordsOn s 0)[k]'(by omega)).2 < (wordsOn s 0)[k + 1].1) := wordsOn_apart s s.size 0 (by omega)
  go_wp2_with fail
  refine (wordsI2_any s _ (by omega)).mono ?_
  rintro e u2 ⟨p1, c1, rfl, _, hr1, hb2⟩
  go_wp2_with fail
  refine (wordsS2_any s _ (by omega)).mono ?_
  rintro e u3 ⟨p0, c0, rfl, hr0, hb3⟩
  have r1 := hr1.below hb3
  clear hr1
  have hbw3 : Below w.heap.size w u3 := below_trans hb1 (below_trans hb2 hb3)
  clear hb1 hb2 hb3
  go_wp2
  go_loopw [6] (fun i wr => ∃ k : Nat, k ≤ (wordsOn s 0).length ∧ i = .int .i64 k ∧ Below u3.heap.size u3 wr) (fun i _ => (wordsOn s 0).length - (intOf i).toNat)
  case atStart => exact ⟨0, Nat.zero_le _, rfl, Below.refl _ _⟩
  case round =>
    obtain ⟨k, hk, rfl, hbel⟩ := hrel
    by_cases hlt : k < (wordsOn s 0).length
    · obtain ⟨g1, rfl, hg1, hc1⟩ := r1 (by omega)
      obtain ⟨g0, rfl, hg0, hc0⟩ := hr0 (by omega)
      have hsz := hbel.size
      have hg1' : g1 < wr.heap.size := by omega
      have hg0' : g0 < wr.heap.size := by omega
      obtain ⟨_, hm1, hm2, hm3⟩ := HM.out _ (List.getElem_mem hlt)
      clear hm3
      obtain ⟨p0, p1, p2⟩ := hc1 k hlt
      obtain ⟨q0, q1, q2⟩ := hc0 k hlt
      have r10 := (hbel.cell (p := ⟨g1, k * 3, none⟩) hg1).trans p0
      have r11 := (hbel.cell (p := ⟨g1, k * 3 + 1, none⟩) hg1).trans p1
      have r12 := (hbel.cell (p := ⟨g1, k * 3 + 2, none⟩) hg1).trans p2
      have s10 := (hbel.cell (p := ⟨g0, k * 3, none⟩) hg0).trans q0
      have s11 := (hbel.cell (p := ⟨g0, k * 3 + 1, none⟩) hg0).trans q1
      have s12 := (hbel.cell (p := ⟨g0, k * 3 + 2, none⟩) hg0).trans q2
      have hne := neqWord (s.extract (wordsOn s 0)[k].1 (wordsOn s 0)[k].2) ((wordsOn s 0)[k].1 : Int) ((wordsOn s 0)[k].2 : Int)
      clear p0 p1 p2 q0 q1 q2 hc0
      by_cases hk0 : k = 0
      · subst hk0
        clear hc1
        generalize (wordsOn s 0)[0].1 = x at *
        generalize (wordsOn s 0)[0].2 = y at *
        have hsl : ∀ wx : World, (Instr.slice 9 (.string s) (some (.int .i64 (x : Int))) (some (.int .i64 (y : Int))) none).run Try.prog wx = .ok (.string (s.extract x y)) wx := fun wx => by rw [run_slice_string_if wx 9 s .i64 .i64 x y Try.underlying9, if_pos (by omega), if_pos (by omega)]; simp
        have d1 : decide ((x : Int) < 0) = false := by simp
        have d2 : decide ((s.size : Int) < (y : Int)) = false := by simp; omega
        have d3 : decide ((y : Int) ≤ (x : Int)) = false := by simp; omega
        have e2 : decide (s.size < y) = false := by simp; omega
        have e3 : decide (y ≤ x) = false := by simp; omega
        generalize s.extract x y = t at *
        have d4 : (t.toList != t.toList) = false := by simp
        clear hm1 hm2
        go_wp2
        go_quiet (fail)
        go_wp2
        go_roundw
        case rel => exact ⟨1, by omega, by go_num, below_drewN (hbel.alloc hsz _) _⟩
        case measure => simp [intOf]; omega
      · obtain ⟨j, rfl⟩ : ∃ j, k = j + 1 := ⟨k - 1, by omega⟩
        have hap := HA.out j hlt
        obtain ⟨_, _, p2⟩ := hc1 j (by omega)
        have r02 := (hbel.cell (p := ⟨g1, j * 3 + 2, none⟩) hg1).trans p2
        clear p2 hc1
        generalize (wordsOn s 0)[j + 1].1 = x at *
        generalize (wordsOn s 0)[j + 1].2 = y at *
        generalize (wordsOn s 0)[j].2 = z at *
        have hsl : ∀ wx : World, (Instr.slice 9 (.string s) (some (.int .i64 (x : Int))) (some (.int .i64 (y : Int))) none).run Try.prog wx = .ok (.string (s.extract x y)) wx := fun wx => by rw [run_slice_string_if wx 9 s .i64 .i64 x y Try.underlying9, if_pos (by omega), if_pos (by omega)]; simp
        have d1 : decide ((x : Int) < 0) = false := by simp
        have d2 : decide ((s.size : Int) < (y : Int)) = false := by simp; omega
        have d3 : decide ((y : Int) ≤ (x : Int)) = false := by simp; omega
        have e2 : decide (s.size < y) = false := by simp; omega
        have e3 : decide (y ≤ x) = false := by simp; omega
        generalize s.extract x y = t at *
        have d4 : (t.toList != t.toList) = false := by simp
        clear hm1 hm2
        have d5 : decide ((x : Int) ≤ (z : Int)) = false := by simp; omega
        have e5 : decide (x ≤ z) = false := by simp; omega
        have hltI : (j : Int) + 1 < ((wordsOn s 0).length : Int) := by omega
        have hltJ : (j : Int) < ((wordsOn s 0).length : Int) := by omega
        have hj0 : (0 : Int) < (j : Int) + 1 := by omega
        go_wp2
        go_quiet (fail)
        go_wp2
        go_roundw
        case rel => exact ⟨j + 1 + 1, by omega, by go_num, below_drewN (hbel.alloc hsz _) _⟩
        case measure => simp [intOf]; omega
    · clear r1 hr0
      go_wp2
      go_ret
      exact ⟨rfl, below_trans hbw3 hbel⟩
end Go.Proofs.Ytbkehpoigaeboaa
