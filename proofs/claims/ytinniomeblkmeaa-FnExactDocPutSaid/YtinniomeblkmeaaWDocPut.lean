/- The walk of the law FnExactDocPut. -/
import Derived.Test.YtinniomeblkmeaaDocText
import Derived.Test.YtinniomeblkmeaaDocPutI
namespace Go.Proofs.Ytinniomeblkmeaa
open Go.RowKit
set_option maxHeartbeats 1000000 in
theorem wFnExactDocPut (key : ByteArray) (a0 : Option Addr) (cap0 : Nat) (cs : List Cel) (w : World) (hk : key.size ≤ maxLen) (hz : cs.length ≤ maxLen) (hsm : ∀ i, i < cs.length → (cat cs i).name.size ≤ maxLen ∧ (cat cs i).text.size ≤ maxLen) (hr : CelRow w a0 cs) :
    Calls Try.prog 9 #[.agg #[.string key, .slice a0 cs.length cap0]] w fun e w' => e = .returned (.bool true) ∧ Below w.heap.size w w' := by
  have hb0 : Below w.heap.size w (w.alloc (.cells #[.string key, .slice a0 cs.length cap0] 52)) := (Below.refl _ w).alloc (Nat.le_refl _) _
  have r0 := hr.below hb0
  clear hr
  go_enter Try.func9, Try.ntmps9
  go_wp2_with fail
  refine (szDoc_any key a0 cap0 cs _ hk hz hsm r0).mono ?_
  rintro e u1 ⟨r, rfl, hrr, hb1⟩
  obtain ⟨hcl, hfz⟩ := bcell hb1
  have hw1 : Below w.heap.size w u1 := hb0.trans (hb1.mono (by simp))
  have hz1 : w.heap.size + 1 ≤ u1.heap.size := by have := hb1.size; simp at this; omega
  by_cases hneg : r < 0
  · clear r0 hsm hcl hfz
    go_wp2
    go_ret
    exact ⟨rfl, hw1⟩
  have hnd : decide (r < 0) = false := by simpa using hneg
  obtain ⟨hk1, hz2, hs1⟩ := hrr (by omega)
  have HSM : Hid (CelsSmall cs) := hs1
  have r1 := r0.below hb1
  clear r0 hrr hsm hs1
  have B1 : Blk u1 w.heap.size #[.string key, .slice a0 cs.length cap0] 52 := (Blk.new w _ _).below hb1 (by simp)
  have b0 : u1.cell? ⟨w.heap.size, 0, none⟩ = some (.string key) := B1.cell 0
  have b1 : u1.cell? ⟨w.heap.size, 1, none⟩ = some (.slice a0 cs.length cap0) := B1.cell 1
  clear hcl hfz hb1
  go_wp2_with fail
  refine (toDoc_any key a0 cap0 cs _ hz2 r1).mono ?_
  rintro e u2 ⟨p2, c2, rfl, hc2, _, _, hr2, hb2⟩
  go_wp2_with fail
  refine (docPutS_any key p2 c2 cs _ hk1 hz2 HSM.out hr2).mono ?_
  rintro e u3 ⟨rfl, hb3⟩
  have hb13 := below_trans hb2 hb3
  have r3 := r1.below hb13
  have B3 := B1.below hb13 (by omega)
  have hw3 := below_trans hw1 hb13
  have d0 : u3.cell? ⟨w.heap.size, 0, none⟩ = some (.string key) := B3.cell 0
  have d1 : u3.cell? ⟨w.heap.size, 1, none⟩ = some (.slice a0 cs.length cap0) := B3.cell 1
  have hz3 := hb13.size
  clear b0 b1 B1 r1 hr2 hb2 hb3 hb13 hw1
  go_wp2_with fail
  refine (toDoc_any key a0 cap0 cs _ hz2 r3).mono ?_
  rintro e u4 ⟨p4, c4, rfl, hc4, _, _, hr4, hb4⟩
  have r4 := r3.below hb4
  have B4 := B3.below hb4 (by omega)
  have hw4 := below_trans hw3 hb4
  have hz4 := hb4.size
  have hA : Below u4.heap.size u4 (u4.alloc (.cells #[.string key, .slice p4 cs.length c4] 25)) := (Below.refl _ _).alloc (Nat.le_refl _) _
  have x4 := hr4.below hA
  clear d0 d1 B3 r3 hr4 hw3
  go_wp2_with fail
  refine (docPutI_any key p4 c4 cs _ hk1 hz2 HSM.out x4).mono ?_
  rintro e u5 ⟨rfl, hb5⟩
  have hb45 : Below u4.heap.size u4 u5 := hA.trans (hb5.mono (by simp))
  have x5 := x4.below hb5
  have r5 := r4.below hb45
  have B5 := B4.below hb45 (by omega)
  have X5 : Blk u5 u4.heap.size #[.string key, .slice p4 cs.length c4] 25 := (Blk.new u4 _ _).below hb5 (by simp)
  have e0 : u5.cell? ⟨w.heap.size, 0, none⟩ = some (.string key) := B5.cell 0
  have e1 : u5.cell? ⟨w.heap.size, 1, none⟩ = some (.slice a0 cs.length cap0) := B5.cell 1
  have g0 : u5.cell? ⟨u4.heap.size, 0, none⟩ = some (.string key) := X5.cell 0
  have g1 : u5.cell? ⟨u4.heap.size, 1, none⟩ = some (.slice p4 cs.length c4) := X5.cell 1
  have hw5 := below_trans hw4 hb45
  have hz5 := X5.lt
  clear B4 r4 x4 hb4 hb45 hb5 hA hw4 B5 X5
  go_wp2
  go_region_with (first
    | (go_at_call 27; refine (toDoc_any key a0 cap0 cs _ hz2 (by exact r5)).mono ?_; rintro e u6 ⟨p6, c6, rfl, hc6, _, _, hr6, hb6d⟩; have hb6 : Below u5.heap.size u5 u6 := ⟨hb6d.os, hb6d.tape, hb6d.output, hb6d.size, hb6d.block⟩; clear hb6d; obtain ⟨hcl6, hfz6⟩ := bcell hb6; have x6 := x5.below hb6)
    | (go_at_call 28; refine (eqDoc_same key p4 p6 c4 c6 cs _ (by omega) (by exact x6) (by exact hr6)).mono ?_; rintro e u7 ⟨rfl, hb7d⟩; have hb7 : Below u6.heap.size u6 u7 := ⟨hb7d.os, hb7d.tape, hb7d.output, hb7d.size, hb7d.block⟩; clear hb7d))
  all_goals
    go_wp2
    go_ret
    exact ⟨rfl, below_trans hw5 (below_trans hb6 hb7)⟩
end Go.Proofs.Ytinniomeblkmeaa
