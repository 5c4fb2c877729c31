/- laws.eqIndex, markIndex, heldIndex over an index with no row and no entry. -/
import Derived.Test.YtdijgdchmfpepaaIdxNew
import Derived.Test.YtdijgdchmfpepaaFldsMark
namespace Go.Proofs.Ytdijgdchmfpepaa
open Go.RowKit
set_option linter.unusedVariables false

theorem eqRowS_nil (w : World) : Calls Try.prog 31 #[.slice none 0 0, .slice none 0 0] w fun e w' => e = .returned (.bool true) ∧ w' = w := by
  go_enter Try.func31, Try.ntmps31
  go_wp2
  refine wp_loop_rounds 1 ?_
  rw [rounds_succ]
  go_wp2
  go_ret
  exact ⟨rfl, rfl⟩
theorem eqEntryS_nil (w : World) : Calls Try.prog 32 #[.slice none 0 0, .slice none 0 0] w fun e w' => e = .returned (.bool true) ∧ w' = w := by
  go_enter Try.func32, Try.ntmps32
  go_wp2
  refine wp_loop_rounds 1 ?_
  rw [rounds_succ]
  go_wp2
  go_ret
  exact ⟨rfl, rfl⟩
theorem markRowS_nil (k : Int) (w : World) : Calls Try.prog 34 #[.slice none 0 0, .int .i64 k] w fun e w' => e = .returned (.int .i64 k) ∧ w' = w := by
  go_enter Try.func34, Try.ntmps34
  go_wp2
  refine wp_loop_rounds 1 ?_
  rw [rounds_succ]
  go_wp2
  go_ret
  exact ⟨rfl, rfl⟩
theorem markEntryS_nil (k : Int) (w : World) : Calls Try.prog 35 #[.slice none 0 0, .int .i64 k] w fun e w' => e = .returned (.int .i64 k) ∧ w' = w := by
  go_enter Try.func35, Try.ntmps35
  go_wp2
  refine wp_loop_rounds 1 ?_
  rw [rounds_succ]
  go_wp2
  go_ret
  exact ⟨rfl, rfl⟩
theorem heldRowS_nil (k : Int) (w : World) : Calls Try.prog 37 #[.slice none 0 0, .int .i64 k] w fun e w' => e = .returned (.int .i64 k) ∧ w' = w := by
  go_enter Try.func37, Try.ntmps37
  go_wp2
  refine wp_loop_rounds 1 ?_
  rw [rounds_succ]
  go_wp2
  go_ret
  exact ⟨rfl, rfl⟩
theorem heldEntryS_nil (k : Int) (w : World) : Calls Try.prog 38 #[.slice none 0 0, .int .i64 k] w fun e w' => e = .returned (.int .i64 k) ∧ w' = w := by
  go_enter Try.func38, Try.ntmps38
  go_wp2
  refine wp_loop_rounds 1 ?_
  rw [rounds_succ]
  go_wp2
  go_ret
  exact ⟨rfl, rfl⟩
set_option maxHeartbeats 1000000 in
theorem eqIndex_new (a b : Option Addr) (ca cb : Nat) (fs : List Fld) (w : World) (hl : fs.length ≤ 1048576) (ha : FldRow w a fs) (hb : FldRow w b fs) :
    Calls Try.prog 18 #[.agg #[.slice a fs.length ca, .slice none 0 0, .slice none 0 0, .int .i64 0], .agg #[.slice b fs.length cb, .slice none 0 0, .slice none 0 0, .int .i64 0]] w fun e w' => e = .returned (.bool true) ∧ Below w.heap.size w w' := by
  have hb0 : Below w.heap.size w ((w.alloc (.cells #[.slice a fs.length ca, .slice none 0 0, .slice none 0 0, .int .i64 0] 28)).alloc (.cells #[.slice b fs.length cb, .slice none 0 0, .slice none 0 0, .int .i64 0] 28)) := ((Below.refl _ w).alloc (Nat.le_refl _) _).alloc (by simp) _
  have A0 : Blk ((w.alloc (.cells #[.slice a fs.length ca, .slice none 0 0, .slice none 0 0, .int .i64 0] 28)).alloc (.cells #[.slice b fs.length cb, .slice none 0 0, .slice none 0 0, .int .i64 0] 28)) w.heap.size #[.slice a fs.length ca, .slice none 0 0, .slice none 0 0, .int .i64 0] 28 := (Blk.new w _ _).alloc _
  have B0 : Blk ((w.alloc (.cells #[.slice a fs.length ca, .slice none 0 0, .slice none 0 0, .int .i64 0] 28)).alloc (.cells #[.slice b fs.length cb, .slice none 0 0, .slice none 0 0, .int .i64 0] 28)) (w.heap.size + 1) #[.slice b fs.length cb, .slice none 0 0, .slice none 0 0, .int .i64 0] 28 := by
    have h := Blk.new (w.alloc (.cells #[.slice a fs.length ca, .slice none 0 0, .slice none 0 0, .int .i64 0] 28)) #[.slice b fs.length cb, .slice none 0 0, .slice none 0 0, .int .i64 0] 28
    rw [show (w.alloc (.cells #[.slice a fs.length ca, .slice none 0 0, .slice none 0 0, .int .i64 0] 28)).heap.size = w.heap.size + 1 from by simp] at h
    exact h
  have ra := ha.below hb0
  have rb := hb.below hb0
  clear ha hb
  go_enter Try.func18, Try.ntmps18
  go_wp2_with fail
  refine (eqFieldS_same a b ca cb fs _ (by omega) ra rb).mono ?_
  rintro e w1 ⟨rfl, hb1⟩
  have A1 := A0.below hb1 A0.lt
  have B1 := B0.below hb1 B0.lt
  have hw1 := below_trans hb0 hb1
  clear A0 B0 hb0 hb1 ra rb
  have x1 := A1.cell 1
  have x2 := A1.cell 2
  have x3 := A1.cell 3
  have y1 := B1.cell 1
  have y2 := B1.cell 2
  have y3 := B1.cell 3
  have hl1 := A1.lt
  have hl2 := B1.lt
  simp at x1 x2 x3 y1 y2 y3
  go_wp2_with fail
  refine (eqRowS_nil _).mono ?_
  rintro e _ ⟨rfl, rfl⟩
  go_wp2_with fail
  refine (eqEntryS_nil _).mono ?_
  rintro e _ ⟨rfl, rfl⟩
  clear A1 B1
  go_wp2
  go_ret
  exact ⟨rfl, hw1⟩
set_option maxHeartbeats 1000000 in
theorem markIndex_new (base : Nat) (p : Option Addr) (c n : Nat) (xs : List Value) (w : World) (hx : xs.length = n * 3) (hn : n ≤ 1048576) (hown : w.ownsRow base 46 3 (.slice p n c) n xs) :
    Calls Try.prog 23 #[.agg #[.slice p n c, .slice none 0 0, .slice none 0 0, .int .i64 0], .int .i64 1] w fun e w' => e = .returned (.int .i64 ((1 + 3 * n : Nat) : Int)) ∧ w'.ownsRow base 46 3 (.slice p n c) n (marksF 1 n) ∧ w.grownBy w' (Value.slice p n c).ownBlock := by
  have A0 := Blk.new w #[.slice p n c, .slice none 0 0, .slice none 0 0, .int .i64 0] 28
  have ho := hown.alloc (.cells #[.slice p n c, .slice none 0 0, .slice none 0 0, .int .i64 0] 28)
  clear hown
  go_enter Try.func23, Try.ntmps23
  go_wp2_with fail
  refine (markFieldS_any base (.slice p n c) n 1 xs _ hx (by omega) (by omega) (by omega) ho).mono ?_
  rintro e w1 ⟨rfl, ho1, hg1⟩
  have A1 := A0.grown hg1 (fun e => own_type ho A0 (by decide) e.symm)
  have HO1 : Hid (w1.ownsRow base 46 3 (.slice p n c) n (marksF 1 n)) := ho1
  have hg : w.grownBy w1 (Value.slice p n c).ownBlock := grown_then (grown_of_below ((Below.refl _ w).alloc (Nat.le_refl _) _)) hg1
  clear A0 ho ho1 hg1
  have x1 := A1.cell 1
  have x2 := A1.cell 2
  simp at x1 x2
  go_wp2_with fail
  refine (markRowS_nil _ _).mono ?_
  rintro e _ ⟨rfl, rfl⟩
  go_wp2_with fail
  refine (markEntryS_nil _ _).mono ?_
  rintro e _ ⟨rfl, rfl⟩
  clear A1
  go_wp2
  go_ret
  exact ⟨rfl, HO1.out, hg⟩
set_option maxHeartbeats 1000000 in
theorem heldIndex_new (p : Option Addr) (c n : Nat) (w : World) (hn : n ≤ 1048576) (hr : MarkF w p 1 n) :
    Calls Try.prog 26 #[.agg #[.slice p n c, .slice none 0 0, .slice none 0 0, .int .i64 0], .int .i64 1] w fun e w' => e = .returned (.int .i64 ((1 + 3 * n : Nat) : Int)) ∧ Below w.heap.size w w' := by
  have A0 := Blk.new w #[.slice p n c, .slice none 0 0, .slice none 0 0, .int .i64 0] 28
  have hb0 : Below w.heap.size w (w.alloc (.cells #[.slice p n c, .slice none 0 0, .slice none 0 0, .int .i64 0] 28)) := (Below.refl _ w).alloc (Nat.le_refl _) _
  have r0 := hr.below hb0
  clear hr
  go_enter Try.func26, Try.ntmps26
  go_wp2_with fail
  refine (heldFieldS_any p c n 1 _ (by omega) (by omega) (by omega) r0).mono ?_
  rintro e w1 ⟨rfl, hb1⟩
  have A1 := A0.below hb1 A0.lt
  have hw1 := below_trans hb0 hb1
  clear A0 hb0 hb1 r0
  have x1 := A1.cell 1
  have x2 := A1.cell 2
  simp at x1 x2
  go_wp2_with fail
  refine (heldRowS_nil _ _).mono ?_
  rintro e _ ⟨rfl, rfl⟩
  go_wp2_with fail
  refine (heldEntryS_nil _ _).mono ?_
  rintro e _ ⟨rfl, rfl⟩
  clear A1
  go_wp2
  go_ret
  exact ⟨rfl, hw1⟩
end Go.Proofs.Ytdijgdchmfpepaa
