/- The walks of the laws FnExactSetOk and FnExactSetHas, and the contracts of SetHas. -/
import Derived.Test.YtbmdfhognldkjaaToInts
import Derived.Test.YtbmdfhognldkjaaSetOk
import Derived.Test.YtbmdfhognldkjaaEqInts
namespace Go.Proofs.Ytbmdfhognldkjaa
open Go.RowKit

theorem toIntS2_any (a : Option Addr) (cap : Nat) (zs : List Int) (w : World) (hz : zs.length ≤ 1099511627776) (hr : IntRow w a zs) :
    Calls Try.prog 31 #[.slice a zs.length cap] w fun e w' => ∃ a' cap', e = .returned (.slice a' zs.length cap') ∧ w'.ownsRow w.heap.size 3 1 (.slice a' zs.length cap') zs.length (zs.map (Value.int .i64)) ∧ IntRow w' a' zs ∧ Below w.heap.size w w' := by
  refine (toIntS_any a cap zs w hz hr).mono ?_
  rintro e w' ⟨v, rfl, h1, h2⟩
  obtain ⟨a', c', rfl, hr'⟩ := owns_intRow h1
  exact ⟨a', c', rfl, h1, hr', h2⟩

theorem wFnExactSetOk (a0 : Option Addr) (cap0 : Nat) (zs : List Int) (w : World) (hz : zs.length ≤ maxLen) (hr : IntRow w a0 zs) :
    Calls Try.prog 9 #[.slice a0 zs.length cap0] w fun e w' => e = .returned (.bool true) ∧ Below w.heap.size w w' := by
  unfold maxLen at hz
  by_cases hbig : 1048576 < (zs.length : Int)
  · clear hr
    go_enter Try.func9, Try.ntmps9
    go_wp2
    go_ret
    exact ⟨rfl, Below.refl _ _⟩
  go_enter Try.func9, Try.ntmps9
  go_wp2_with fail
  refine (toIntS2_any a0 cap0 zs _ (by omega) hr).mono ?_
  rintro e u1 ⟨p1, c1, rfl, _, hr1, hb1⟩
  go_wp2_with fail
  refine (setS_any p1 c1 zs _ (by omega) hr1).mono ?_
  rintro e u2 ⟨rfl, hb2⟩
  have r2 := hr.below (below_trans hb1 hb2)
  clear hr1
  go_wp2_with fail
  refine (toIntS2_any a0 cap0 zs _ (by omega) r2).mono ?_
  rintro e u3 ⟨p3, c3, rfl, _, hr3, hb3⟩
  go_wp2_with fail
  refine (setI_any p3 c3 zs _ (by omega) hr3).mono ?_
  rintro e u4 ⟨rfl, rfl⟩
  have r3 := r2.below hb3
  clear r2
  go_wp2_with fail
  refine (toIntS2_any a0 cap0 zs _ (by omega) r3).mono ?_
  rintro e u5 ⟨p5, c5, rfl, _, hr5, hb5⟩
  have r35 := hr3.below hb5
  clear hr3 r3
  go_wp2_with fail
  refine (eqIntS_same p3 p5 c3 c5 zs _ (by omega) r35 hr5).mono ?_
  rintro e u6 ⟨rfl, hb6⟩
  clear hr r35 hr5
  go_wp2
  go_ret
  exact ⟨rfl, below_trans hb1 (below_trans hb2 (below_trans hb3 (below_trans hb5 hb6)))⟩
end Go.Proofs.Ytbmdfhognldkjaa
