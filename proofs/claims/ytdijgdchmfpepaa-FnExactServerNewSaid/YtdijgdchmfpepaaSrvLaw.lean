/- laws.eqServer, markServer, heldServer over a server with fields alone. -/
import Derived.Test.YtdijgdchmfpepaaSrvNew
namespace Go.Proofs.Ytdijgdchmfpepaa
open Go.RowKit
set_option linter.unusedVariables false

theorem eqHintS_nil (w : World) : Calls Try.prog 19 #[.slice none 0 0, .slice none 0 0] w fun e w' => e = .returned (.bool true) ∧ w' = w := by
  go_enter Try.func19, Try.ntmps19
  go_wp2
  refine wp_loop_rounds 1 ?_
  rw [rounds_succ]
  go_wp2
  go_ret
  exact ⟨rfl, rfl⟩
theorem eqStringS_nil (w : World) : Calls Try.prog 20 #[.slice none 0 0, .slice none 0 0] w fun e w' => e = .returned (.bool true) ∧ w' = w := by
  go_enter Try.func20, Try.ntmps20
  go_wp2
  refine wp_loop_rounds 1 ?_
  rw [rounds_succ]
  go_wp2
  go_ret
  exact ⟨rfl, rfl⟩
theorem markHintS_nil (k : Int) (w : World) : Calls Try.prog 24 #[.slice none 0 0, .int .i64 k] w fun e w' => e = .returned (.int .i64 k) ∧ w' = w := by
  go_enter Try.func24, Try.ntmps24
  go_wp2
  refine wp_loop_rounds 1 ?_
  rw [rounds_succ]
  go_wp2
  go_ret
  exact ⟨rfl, rfl⟩
theorem markStringS_nil (k : Int) (w : World) : Calls Try.prog 25 #[.slice none 0 0, .int .i64 k] w fun e w' => e = .returned (.int .i64 k) ∧ w' = w := by
  go_enter Try.func25, Try.ntmps25
  go_wp2
  refine wp_loop_rounds 1 ?_
  rw [rounds_succ]
  go_wp2
  go_ret
  exact ⟨rfl, rfl⟩
theorem heldHintS_nil (k : Int) (w : World) : Calls Try.prog 27 #[.slice none 0 0, .int .i64 k] w fun e w' => e = .returned (.int .i64 k) ∧ w' = w := by
  go_enter Try.func27, Try.ntmps27
  go_wp2
  refine wp_loop_rounds 1 ?_
  rw [rounds_succ]
  go_wp2
  go_ret
  exact ⟨rfl, rfl⟩
theorem heldStringS_nil (k : Int) (w : World) : Calls Try.prog 28 #[.slice none 0 0, .int .i64 k] w fun e w' => e = .returned (.int .i64 k) ∧ w' = w := by
  go_enter Try.func28, Try.ntmps28
  go_wp2
  refine wp_loop_rounds 1 ?_
  rw [rounds_succ]
  go_wp2
  go_ret
  exact ⟨rfl, rfl⟩
set_option maxRecDepth 100000 in
set_option maxHeartbeats 2000000 in
theorem eqServer_new (a b : Option Addr) (ca cb : Nat) (fs : List Fld) (w : World) (hl : fs.length ≤ 1048576) (ha : FldRow w a fs) (hb : FldRow w b fs) :
    Calls Try.prog 8 #[.agg #[.slice a fs.length ca, .slice none 0 0, .slice none 0 0, .int .i64 0, .slice none 0 0, .slice none 0 0], .agg #[.slice b fs.length cb, .slice none 0 0, .slice none 0 0, .int .i64 0, .slice none 0 0, .slice none 0 0]] w fun e w' => e = .returned (.bool true) ∧ Below w.heap.size w w' := by
  have hb0 : Below w.heap.size w ((w.alloc (.cells #[.slice a fs.length ca, .slice none 0 0, .slice none 0 0, .int .i64 0, .slice none 0 0, .slice none 0 0] 32)).alloc (.cells #[.slice b fs.length cb, .slice none 0 0, .slice none 0 0, .int .i64 0, .slice none 0 0, .slice none 0 0] 32)) := ((Below.refl _ w).alloc (Nat.le_refl _) _).alloc (by simp) _
  have A0 : Blk ((w.alloc (.cells #[.slice a fs.length ca, .slice none 0 0, .slice none 0 0, .int .i64 0, .slice none 0 0, .slice none 0 0] 32)).alloc (.cells #[.slice b fs.length cb, .slice none 0 0, .slice none 0 0, .int .i64 0, .slice none 0 0, .slice none 0 0] 32)) w.heap.size #[.slice a fs.length ca, .slice none 0 0, .slice none 0 0, .int .i64 0, .slice none 0 0, .slice none 0 0] 32 := (Blk.new w _ _).alloc _
  have B0 : Blk ((w.alloc (.cells #[.slice a fs.length ca, .slice none 0 0, .slice none 0 0, .int .i64 0, .slice none 0 0, .slice none 0 0] 32)).alloc (.cells #[.slice b fs.length cb, .slice none 0 0, .slice none 0 0, .int .i64 0, .slice none 0 0, .slice none 0 0] 32)) (w.heap.size + 1) #[.slice b fs.length cb, .slice none 0 0, .slice none 0 0, .int .i64 0, .slice none 0 0, .slice none 0 0] 32 := by
    have h := Blk.new (w.alloc (.cells #[.slice a fs.length ca, .slice none 0 0, .slice none 0 0, .int .i64 0, .slice none 0 0, .slice none 0 0] 32)) #[.slice b fs.length cb, .slice none 0 0, .slice none 0 0, .int .i64 0, .slice none 0 0, .slice none 0 0] 32
    rw [show (w.alloc (.cells #[.slice a fs.length ca, .slice none 0 0, .slice none 0 0, .int .i64 0, .slice none 0 0, .slice none 0 0] 32)).heap.size = w.heap.size + 1 from by simp] at h
    exact h
  have ra := ha.below hb0
  have rb := hb.below hb0
  clear ha hb
  go_enter Try.func8, Try.ntmps8
  go_wp2_with fail
  refine (eqIndex_new a b ca cb fs _ hl ra rb).mono ?_
  rintro e w1 ⟨rfl, hb1⟩
  have A1 := A0.below hb1 A0.lt
  have B1 := B0.below hb1 B0.lt
  have hw1 := below_trans hb0 hb1
  clear A0 B0 hb0 hb1 ra rb
  have x4 := A1.cell 4
  have x5 := A1.cell 5
  have y4 := B1.cell 4
  have y5 := B1.cell 5
  have hl1 := A1.lt
  have hl2 := B1.lt
  simp at x4 x5 y4 y5
  go_wp2_with fail
  refine (eqHintS_nil _).mono ?_
  rintro e _ ⟨rfl, rfl⟩
  go_wp2_with fail
  refine (eqStringS_nil _).mono ?_
  rintro e _ ⟨rfl, rfl⟩
  clear A1 B1
  go_wp2
  go_ret
  exact ⟨rfl, hw1⟩
set_option maxRecDepth 100000 in
set_option maxHeartbeats 2000000 in
theorem markServer_new (base : Nat) (p : Option Addr) (c n : Nat) (xs : List Value) (w : World) (hx : xs.length = n * 3) (hn : n ≤ 1048576) (hown : w.ownsRow base 46 3 (.slice p n c) n xs) :
    Calls Try.prog 11 #[.agg #[.slice p n c, .slice none 0 0, .slice none 0 0, .int .i64 0, .slice none 0 0, .slice none 0 0], .int .i64 1] w fun e w' => e = .returned (.int .i64 ((1 + 3 * n : Nat) : Int)) ∧ w'.ownsRow base 46 3 (.slice p n c) n (marksF 1 n) ∧ w.grownBy w' (Value.slice p n c).ownBlock := by
  have A0 := Blk.new w #[.slice p n c, .slice none 0 0, .slice none 0 0, .int .i64 0, .slice none 0 0, .slice none 0 0] 32
  have ho := hown.alloc (.cells #[.slice p n c, .slice none 0 0, .slice none 0 0, .int .i64 0, .slice none 0 0, .slice none 0 0] 32)
  clear hown
  go_enter Try.func11, Try.ntmps11
  go_wp2_with fail
  refine (markIndex_new base p c n xs _ hx hn ho).mono ?_
  rintro e w1 ⟨rfl, ho1, hg1⟩
  have A1 := A0.grown hg1 (fun e => own_type ho A0 (by decide) e.symm)
  have HO1 : Hid (w1.ownsRow base 46 3 (.slice p n c) n (marksF 1 n)) := ho1
  have hg : w.grownBy w1 (Value.slice p n c).ownBlock := grown_then (grown_of_below ((Below.refl _ w).alloc (Nat.le_refl _) _)) hg1
  clear A0 ho ho1 hg1
  have x4 := A1.cell 4
  have x5 := A1.cell 5
  simp at x4 x5
  go_wp2_with fail
  refine (markHintS_nil _ _).mono ?_
  rintro e _ ⟨rfl, rfl⟩
  go_wp2_with fail
  refine (markStringS_nil _ _).mono ?_
  rintro e _ ⟨rfl, rfl⟩
  clear A1
  go_wp2
  go_ret
  exact ⟨rfl, HO1.out, hg⟩
set_option maxRecDepth 100000 in
set_option maxHeartbeats 2000000 in
theorem heldServer_new (p : Option Addr) (c n : Nat) (w : World) (hn : n ≤ 1048576) (hr : MarkF w p 1 n) :
    Calls Try.prog 12 #[.agg #[.slice p n c, .slice none 0 0, .slice none 0 0, .int .i64 0, .slice none 0 0, .slice none 0 0], .int .i64 1] w fun e w' => e = .returned (.int .i64 ((1 + 3 * n : Nat) : Int)) ∧ Below w.heap.size w w' := by
  have A0 := Blk.new w #[.slice p n c, .slice none 0 0, .slice none 0 0, .int .i64 0, .slice none 0 0, .slice none 0 0] 32
  have hb0 : Below w.heap.size w (w.alloc (.cells #[.slice p n c, .slice none 0 0, .slice none 0 0, .int .i64 0, .slice none 0 0, .slice none 0 0] 32)) := (Below.refl _ w).alloc (Nat.le_refl _) _
  have r0 := hr.below hb0
  clear hr
  go_enter Try.func12, Try.ntmps12
  go_wp2_with fail
  refine (heldIndex_new p c n _ hn r0).mono ?_
  rintro e w1 ⟨rfl, hb1⟩
  have A1 := A0.below hb1 A0.lt
  have hw1 := below_trans hb0 hb1
  clear A0 hb0 hb1 r0
  have x4 := A1.cell 4
  have x5 := A1.cell 5
  simp at x4 x5
  go_wp2_with fail
  refine (heldHintS_nil _ _).mono ?_
  rintro e _ ⟨rfl, rfl⟩
  go_wp2_with fail
  refine (heldStringS_nil _ _).mono ?_
  rintro e _ ⟨rfl, rfl⟩
  clear A1
  go_wp2
  go_ret
  exact ⟨rfl, hw1⟩
end Go.Proofs.Ytdijgdchmfpepaa
