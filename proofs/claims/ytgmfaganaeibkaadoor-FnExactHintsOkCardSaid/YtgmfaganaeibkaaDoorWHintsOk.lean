/- The walk of the law FnExactHintsOk. -/
import Derived.Test.YtgmfaganaeibkaaDoorHintsOk
namespace Go.Proofs.YtgmfaganaeibkaaDoor
open Go.RowKit
set_option linter.unusedVariables false

set_option maxHeartbeats 1000000 in
theorem wFnExactHintsOk (a0 : Option Addr) (cap0 : Nat) (fs : List Hn) (w : World) (hm : MaxL w) (hz : fs.length ≤ maxLen) (hsm : ∀ i, i < fs.length → (hnat fs i).text.size ≤ maxLen) (hr : HnRow w a0 fs) :
    Calls Tryd.prog 8 #[.slice a0 fs.length cap0] w fun e w' => e = .returned (.bool true) ∧ Below w.heap.size w w' := by
  have HM : Hid (∀ wx, Below w.heap.size w wx → MaxL wx) := fun wx h => hm.below h
  clear hm
  go_enter Tryd.func8, Tryd.ntmps8
  go_wp2_with fail
  refine (szHintS_any a0 cap0 fs _ hz hsm hr).mono ?_
  rintro e u1 ⟨r, rfl, hrr, hb1⟩
  by_cases hneg : r < 0
  · clear hr hsm
    go_wp2
    go_ret
    exact ⟨rfl, hb1⟩
  have hnd : decide (r < 0) = false := by simpa using hneg
  obtain ⟨hz1, hsm1⟩ := hrr (by omega)
  have r1 := hr.below hb1
  clear hr hsm hrr
  have HSM : Hid (HnsSmall fs) := hsm1
  clear hsm1
  go_wp2_with fail
  refine (toHintS2_any a0 cap0 fs _ hz1 r1).mono ?_
  rintro e u2 ⟨p2, c2, rfl, hc2, hr2, hb2⟩
  go_wp2_with fail
  refine (hintsS_any p2 c2 fs _ hz1 HSM.out hr2).mono ?_
  rintro e u3 ⟨rfl, hb3⟩
  have r3 := r1.below (below_trans hb2 hb3)
  have hw3 := below_trans hb1 (below_trans hb2 hb3)
  clear r1 hr2 hb1 hb2 hb3
  go_wp2_with fail
  refine (toHintS2_any a0 cap0 fs _ hz1 r3).mono ?_
  rintro e u4 ⟨p4, c4, rfl, hc4, hr4, hb4⟩
  go_wp2_with fail
  refine (hintsI_any p4 c4 fs _ hz1 HSM.out (HM.out _ (below_trans hw3 hb4)) hr4).mono ?_
  rintro e u5 ⟨rfl, hb5⟩
  have r5 := r3.below (below_trans hb4 hb5)
  have x5 := hr4.below hb5
  have hw5 := below_trans hw3 (below_trans hb4 hb5)
  clear r3 hr4 hb4 hb5 hw3
  go_wp2_with fail
  refine (toHintS2_any a0 cap0 fs _ hz1 r5).mono ?_
  rintro e u6 ⟨p6, c6, rfl, hc6, hr6, hb6⟩
  have x6 := x5.below hb6
  go_wp2_with fail
  refine (eqHintS_same p4 p6 c4 c6 fs _ (by omega) x6 hr6).mono ?_
  rintro e u7 ⟨rfl, hb7⟩
  clear x5 x6 r5 hr6
  go_wp2
  go_ret
  exact ⟨rfl, below_trans hw5 (below_trans hb6 hb7)⟩
end Go.Proofs.YtgmfaganaeibkaaDoor
