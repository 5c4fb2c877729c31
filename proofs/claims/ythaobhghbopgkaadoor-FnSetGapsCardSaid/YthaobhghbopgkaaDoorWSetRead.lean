/- The walk of the law FnExactSetRead. -/
import Derived.Test.YthaobhghbopgkaaDoorSetReadS
import Derived.Test.YthaobhghbopgkaaDoorMarkInts
import Derived.Test.YthaobhghbopgkaaDoorEqInts
namespace Go.Proofs.YthaobhghbopgkaaDoor
open Go.RowKit
set_option linter.unusedVariables false

theorem readL_len (s : ByteArray) : (readL s).length ≤ 16 := by
  unfold readL
  by_cases h : s.size = 0
  · rw [if_pos h]; simp
  · rw [if_neg h]
    cases hp : partsOk (parts s) with
    | false => simp
    | true =>
      simp only [if_true, sums_len]
      have h2 := hp
      simp only [partsOk, Bool.and_eq_true, setB, decide_eq_true_eq, sums_len] at h2
      omega

set_option maxHeartbeats 1000000 in
theorem wFnExactSetRead (s : ByteArray) (w : World) (hm : MaxL w) (hs : s.size ≤ maxLen) :
    Calls Tryd.prog 5 #[.string s] w fun e w' => e = .returned (.bool true) ∧ Below w.heap.size w w' := by
  unfold maxLen at hs
  by_cases hbig : 1048576 < (s.size : Int)
  · clear hm
    go_enter Tryd.func5, Tryd.ntmps5
    go_wp2
    go_ret
    exact ⟨rfl, Below.refl _ _⟩
  have hL := readL_len s
  have HM : Hid (MaxL w) := hm
  clear hm
  go_enter Tryd.func5, Tryd.ntmps5
  go_wp2_with fail
  refine (readS_any s _ (by omega)).mono ?_
  rintro e u1 ⟨p0, c0, rfl, hr0, hb1⟩
  go_wp2_with fail
  refine (readI_any s _ (by omega) (HM.out.below hb1)).mono ?_
  rintro e u2 ⟨p1, c1, rfl, ho1, hb2⟩
  generalize hLL : readL s = L at *
  generalize hBB : readB s = bb at *
  have hw2 := below_trans hb1 hb2
  obtain ⟨p1', c1', ev, hr1⟩ := owns_intRow ho1
  simp only [Value.slice.injEq] at ev
  obtain ⟨rfl, hq, rfl⟩ := ev
  clear hq
  have r0 := hr0.below hb2
  go_wp2_with fail
  refine (eqIntS_same p1 p0 c1 c0 L _ (by omega) hr1 r0).mono ?_
  rintro e u3 ⟨rfl, hb3⟩
  have ho3 := ho1.kept (grown_none hb3) (Classical.em _)
  have hb13 : Below u1.heap.size u1 u3 := below_trans hb2 hb3
  clear hr1 r0 ho1
  go_wp2_with fail
  refine (markIntS_any u1.heap.size _ L.length 1 _ _ (by simp) (by omega) (by omega) ho3).mono ?_
  rintro e u4 ⟨rfl, ho4, hg4⟩
  have hb14 : Below u1.heap.size u1 u4 := hb13.grown hg4 hb13.size (fun j hj => (ho3.lt j hj).1)
  have om' : u4.ownsRow u1.heap.size 3 1 (.slice p1 L.length c1) (marksI 1 L.length).length ((marksI 1 L.length).map (Value.int .i64)) := by rw [marksI_len]; exact ho4
  obtain ⟨pm, cm, ev, hr4⟩ := owns_intRow om'
  simp only [Value.slice.injEq] at ev
  obtain ⟨rfl, hq, rfl⟩ := ev
  clear hq om' ho4 hg4 ho3
  have r04 := hr0.below hb14
  have hw4 : Below w.heap.size w u4 := below_trans hb1 hb14
  clear hr0
  go_wp2_with fail
  refine (heldIntS_any p1 c1 L.length 1 _ (by omega) (by omega) hr4).mono ?_
  rintro e u5 ⟨rfl, hb5⟩
  have hw5 := below_trans hw4 hb5
  have HRI := readI_any s u5 (by omega) (HM.out.below hw5)
  unfold ReadAns at HRI
  rw [hLL, hBB] at HRI
  go_wp2_with fail
  refine HRI.mono ?_
  rintro e u6 ⟨p2, c2, rfl, ho6, hb6⟩
  obtain ⟨p2', c2', ev, hr6⟩ := owns_intRow ho6
  simp only [Value.slice.injEq] at ev
  obtain ⟨rfl, hq, rfl⟩ := ev
  clear hq ho6
  have r06 := r04.below (below_trans hb5 hb6)
  go_wp2_with fail
  refine (eqIntS_same p2 p0 c2 c0 L _ (by omega) hr6 r06).mono ?_
  rintro e u7 ⟨rfl, hb7⟩
  have r47 := hr4.below (below_trans hb5 (below_trans hb6 hb7))
  clear hr6 r06 hr4 r04
  go_wp2_with fail
  refine (heldIntS_any p1 c1 L.length 1 _ (by omega) (by omega) r47).mono ?_
  rintro e u8 ⟨rfl, hb8⟩
  go_wp2
  go_ret
  exact ⟨rfl, below_trans hw5 (below_trans hb6 (below_trans hb7 hb8))⟩
end Go.Proofs.YthaobhghbopgkaaDoor
