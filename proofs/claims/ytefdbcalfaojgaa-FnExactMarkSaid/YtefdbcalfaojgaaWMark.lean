/- The walk of the law FnExactMark. -/
import Derived.Test.YtefdbcalfaojgaaMarkS
import Derived.Test.YtefdbcalfaojgaaMarkI
import Derived.Test.YtefdbcalfaojgaaStrs
import Derived.Test.YtefdbcalfaojgaaStrEq
import Derived.Test.YtefdbcalfaojgaaStrs2
namespace Go.Proofs.Ytefdbcalfaojgaa
open Go.RowKit

set_option maxHeartbeats 1000000 in
theorem wFnExactMark (s : ByteArray) (a0 : Option Addr) (cap0 : Nat) (ss : List ByteArray) (w : World) (hs : s.size ≤ maxLen) (hz : ss.length ≤ maxLen) (hsm : ∀ i, i < ss.length → (sat ss i).size ≤ maxLen) (hr : SRow w a0 ss) :
    Calls Try.prog 5 #[.string s, .slice a0 ss.length cap0] w fun e w' => e = .returned (.bool true) ∧ Below w.heap.size w w' := by
  unfold maxLen at hs
  by_cases hbig : 1048576 < (s.size : Int)
  · clear hr hsm
    go_enter Try.func5, Try.ntmps5
    go_wp2
    go_ret
    exact ⟨rfl, Below.refl _ _⟩
  go_enter Try.func5, Try.ntmps5
  go_wp2_with fail
  refine (szStringS_any a0 cap0 ss _ hz hsm hr).mono ?_
  rintro e u1 ⟨r, rfl, hrr, rfl⟩
  by_cases hneg : r < 0
  · clear hr hsm
    go_wp2
    go_ret
    exact ⟨rfl, Below.refl _ _⟩
  have hnd : decide (r < 0) = false := by simpa using hneg
  obtain ⟨hz1, _⟩ := hrr (by omega)
  have HR : Hid (∀ wx, Below u1.heap.size u1 wx → SRow wx a0 ss) := fun wx h => hr.below h
  clear hr hsm hrr
  go_wp2_with fail
  refine (toStringS2_any a0 cap0 ss _ hz1 (HR.out _ (Below.refl _ _))).mono ?_
  rintro e u2 ⟨p2, c2, rfl, hr2, hb2⟩
  go_wp2_with fail
  refine (markS_any p2 c2 s ss _ (by omega) hz1 hr2).mono ?_
  rintro e u3 ⟨rfl, hb3⟩
  have hb13 := below_trans hb2 hb3
  clear hr2 hb2 hb3
  go_wp2_with fail
  refine (toStringS2_any a0 cap0 ss _ hz1 (HR.out _ hb13)).mono ?_
  rintro e u4 ⟨p4, c4, rfl, hr4, hb4⟩
  have hb14 := below_trans hb13 hb4
  go_wp2_with fail
  refine (markI_any p4 c4 s ss _ (by omega) hz1 hr4).mono ?_
  rintro e u5 ⟨rfl, hb5⟩
  have hr5 := hr4.below hb5
  have hb15 := below_trans hb14 hb5
  clear hr4 hb13 hb14 hb4 hb5
  generalize markB s ss = x
  go_wp2_with fail
  refine (toStringS2_any a0 cap0 ss _ hz1 (HR.out _ hb15)).mono ?_
  rintro e u6 ⟨p6, c6, rfl, hr6, hb6⟩
  have hr7 := hr5.below hb6
  have hb16 := below_trans hb15 hb6
  clear hb15 hb6 hr5
  go_wp2_with fail
  refine (eqStringS_same p4 p6 c4 c6 ss _ (by omega) hr7 hr6).mono ?_
  rintro e u7 ⟨rfl, hb7⟩
  have hb17 := below_trans hb16 hb7
  clear hr6 hr7 hb16 hb7
  go_wp2
  go_ret
  exact ⟨rfl, hb17⟩
end Go.Proofs.Ytefdbcalfaojgaa
