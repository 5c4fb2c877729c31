/- IndexOk of an index with no row and no entry. -/
import Derived.Test.YtlbigfgjalmhiaaIdxNew
import Derived.Test.YtlbigfgjalmhiaaSdFlds
import Derived.Deep.RegionWith
namespace Go.Proofs.Ytlbigfgjalmhiaa
open Go.RowKit
set_option linter.unusedVariables false

theorem ascending_nil (lo hi : Int) (w : World) : Calls Try.prog 44 #[.slice none 0 0, .int .i64 lo, .int .i64 hi] w fun e w' => e = .returned (.bool true) ∧ w' = w := by
  go_enter Try.func44, Try.ntmps44
  go_wp2
  refine wp_loop_rounds 1 ?_
  rw [rounds_succ]
  go_wp2
  go_ret
  exact ⟨rfl, rfl⟩
set_option maxHeartbeats 1000000 in
theorem rowsOk_new (p : Option Addr) (n c : Nat) (w : World) : Calls Try.prog 33 #[.agg #[.slice p n c, .slice none 0 0, .slice none 0 0, .int .i64 0]] w fun e w' => e = .returned (.bool true) ∧ Below w.heap.size w w' := by
  have hb0 : Below w.heap.size w (w.alloc (.cells #[.slice p n c, .slice none 0 0, .slice none 0 0, .int .i64 0] 28)) := (Below.refl _ w).alloc (Nat.le_refl _) _
  go_enter Try.func33, Try.ntmps33
  go_wp2
  refine wp_loop_rounds 1 ?_
  rw [rounds_succ]
  go_wp2_with fail
  refine (ascending_nil _ _ _).mono ?_
  rintro e _ ⟨rfl, rfl⟩
  go_wp2
  go_ret
  exact ⟨rfl, hb0⟩
set_option maxHeartbeats 1000000 in
theorem equalFunc_nil (f : Value) (w : World) : Calls Try.prog 34 #[.slice none 0 0, .slice none 0 0, f] w fun e w' => e = .returned (.bool true) ∧ w' = w := by
  go_enter Try.func34, Try.ntmps34
  go_wp2
  refine wp_loop_rounds 1 ?_
  rw [rounds_succ]
  go_wp2
  go_ret
  exact ⟨rfl, rfl⟩
set_option maxRecDepth 100000 in
set_option maxHeartbeats 2000000 in
theorem indexWords_new (p : Option Addr) (c : Nat) (fs : List Fld) (w : World) (hz : fs.length ≤ 1048576) (hc : fs.length ≤ c) (hsm : FldsSmall fs) (hr : FldRow w p fs) (hok : fieldsB fs = true) :
    Calls Try.prog 17 #[.agg #[.slice p fs.length c, .slice none 0 0, .slice none 0 0, .int .i64 0]] w fun e w' => ∃ m, e = .returned (.tuple #[.agg #[.map m, .slice none 0 0], .bool true]) ∧ Below w.heap.size w w' := by
  have hb0 : Below w.heap.size w ((w.alloc (.cells #[.slice p fs.length c, .slice none 0 0, .slice none 0 0, .int .i64 0] 28)).alloc (.cells #[.map none, .slice none 0 0] 53)) := ((Below.refl _ w).alloc (Nat.le_refl _) _).alloc (by simp) _
  have X0 : Blk ((w.alloc (.cells #[.slice p fs.length c, .slice none 0 0, .slice none 0 0, .int .i64 0] 28)).alloc (.cells #[.map none, .slice none 0 0] 53)) w.heap.size #[.slice p fs.length c, .slice none 0 0, .slice none 0 0, .int .i64 0] 28 := (Blk.new w _ _).alloc _
  have D0 : Blk ((w.alloc (.cells #[.slice p fs.length c, .slice none 0 0, .slice none 0 0, .int .i64 0] 28)).alloc (.cells #[.map none, .slice none 0 0] 53)) (w.heap.size + 1) #[.map none, .slice none 0 0] 53 := by
    have h := Blk.new (w.alloc (.cells #[.slice p fs.length c, .slice none 0 0, .slice none 0 0, .int .i64 0] 28)) #[.map none, .slice none 0 0] 53
    rw [show (w.alloc (.cells #[.slice p fs.length c, .slice none 0 0, .slice none 0 0, .int .i64 0] 28)).heap.size = w.heap.size + 1 from by simp] at h
    exact h
  have r0 := hr.below hb0
  have HSM : Hid (FldsSmall fs) := hsm
  clear hr hsm
  go_enter Try.func17, Try.ntmps17
  go_wp2_with fail
  refine (fieldsI_any p c fs _ hz hc HSM.out r0).mono ?_
  rintro e w1 ⟨rfl, hb1⟩
  rw [hok]
  have X1 := X0.below hb1 X0.lt
  have D1 := D0.below hb1 D0.lt
  have hw1 := below_trans hb0 hb1
  clear X0 D0 r0 hb0 hb1
  have x0 := X1.cell 0
  have x1 := X1.cell 1
  have x2 := X1.cell 2
  have x3 := X1.cell 3
  simp at x0 x1 x2 x3
  go_wp2_with fail
  refine (rowsOk_new p fs.length c _).mono ?_
  rintro e w2 ⟨rfl, hb2⟩
  have X2 := X1.below hb2 X1.lt
  have D2 := D1.below hb2 D1.lt
  have hw2 := below_trans hw1 hb2
  clear X1 D1 hw1 hb2 x0 x1 x2 x3
  have x0 := X2.cell 0
  have x1 := X2.cell 1
  simp at x0 x1
  go_wp2_with fail
  refine (wordsOf_none p fs.length c _).mono ?_
  rintro e w3 ⟨m, rfl, hb3⟩
  have hA : Below w3.heap.size w3 (w3.alloc (.cells #[.map m, .slice none 0 0] 53)) := (Below.refl _ _).alloc (Nat.le_refl _) _
  have M3 := Blk.new w3 #[.map m, .slice none 0 0] 53
  have X3 := (X2.below hb3 X2.lt).alloc (.cells #[.map m, .slice none 0 0] 53)
  have D3 := (D2.below hb3 D2.lt).alloc (.cells #[.map m, .slice none 0 0] 53)
  have hw3 := below_trans hw2 (below_trans hb3 hA)
  clear X2 D2 hw2 hb3 hA x0 x1
  go_wp2_with fail
  generalize w3.alloc (.cells #[.map m, .slice none 0 0] 53) = V3 at *
  have hl := X3.lt
  have hm := M3.lt
  have x2 := X3.cell 2
  have y0 := M3.cell 0
  have y1 := M3.cell 1
  simp at x2 y0 y1
  go_region_with (first
    | (go_at_call 28; refine (entries_none m _).mono ?_; rintro e w4 ⟨rfl, hb4d⟩; have hb4 : Below V3.heap.size V3 w4 := ⟨hb4d.os, hb4d.tape, hb4d.output, hb4d.size, hb4d.block⟩; clear hb4d; obtain ⟨hcl4, hfz4⟩ := bcell hb4)
    | (go_at_call 34; refine (equalFunc_nil _ _).mono ?_; rintro e w5 ⟨rfl, rfl⟩))
  all_goals
    have M4 := M3.below hb4 M3.lt
    have D4 := D3.below hb4 D3.lt
    have hw4 := below_trans hw3 hb4
    clear M3 D3 X3 hb4 hw3 hcl4 hfz4 x2 y0 y1
    have y0 := M4.cell 0
    have y1 := M4.cell 1
    have d0 := D4.cell 0
    have d1 := D4.cell 1
    have e0 := D4.frozen 0
    have e1 := D4.frozen 1
    simp at y0 y1 d0 d1
    go_wp2
    refine bodyPost_ret (v := .tuple #[.agg #[.map m, .slice none 0 0], .bool true]) (by simp [results, Try.results17, go_sem, d0, d1]) rfl ⟨m, rfl, ?_⟩
    exact (hw4.setCell (Nat.le_succ _) _).setCell (Nat.le_succ _) _
set_option maxHeartbeats 1000000 in
theorem indexOk_new (p : Option Addr) (c : Nat) (fs : List Fld) (w : World) (hz : fs.length ≤ 1048576) (hc : fs.length ≤ c) (hsm : FldsSmall fs) (hr : FldRow w p fs) (hok : fieldsB fs = true) :
    Calls Try.prog 8 #[.agg #[.slice p fs.length c, .slice none 0 0, .slice none 0 0, .int .i64 0]] w fun e w' => e = .returned (.bool true) ∧ Below w.heap.size w w' := by
  have hb0 : Below w.heap.size w (w.alloc (.cells #[.slice p fs.length c, .slice none 0 0, .slice none 0 0, .int .i64 0] 28)) := (Below.refl _ w).alloc (Nat.le_refl _) _
  have r0 := hr.below hb0
  have HSM : Hid (FldsSmall fs) := hsm
  clear hr hsm
  go_enter Try.func8, Try.ntmps8
  go_wp2_with fail
  refine (indexWords_new p c fs _ hz hc HSM.out r0 hok).mono ?_
  rintro e w1 ⟨m, rfl, hb1⟩
  have hw1 := below_trans hb0 hb1
  clear r0 hb0 hb1
  go_wp2
  go_ret
  exact ⟨rfl, hw1.alloc hw1.size _⟩
end Go.Proofs.Ytlbigfgjalmhiaa
