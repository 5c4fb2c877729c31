/- SetHas: spec.l3Has, slices.Contains and both SetHas answer the same; the walk of the law FnExactSetHas. -/
import Derived.Test.YtbmdfhognldkjaaWSetOk
namespace Go.Proofs.Ytbmdfhognldkjaa
open Go.RowKit

def hasTo (zs : List Int) (n : Int) (k : Nat) : Bool := !allTo (fun i => !(nth zs i == n)) k
def hasB (zs : List Int) (n : Int) : Bool := hasTo zs n zs.length
theorem hasB_hit (zs : List Int) (n : Int) (k : Nat) (h : k < zs.length) (he : nth zs k = n) : hasB zs n = true := by
  unfold hasB hasTo
  rw [allTo_false _ _ k h (by simp [he])]
  rfl

set_option maxHeartbeats 400000 in
theorem l3Has_any (a : Option Addr) (cap : Nat) (zs : List Int) (n : Int) (w : World) (hz : zs.length ≤ 1099511627776) (hr : IntRow w a zs) :
    Calls Try.prog 47 #[.slice a zs.length cap, .int .i64 n] w fun e w' => e = .returned (.bool (hasB zs n)) ∧ w' = w := by
  go_enter Try.func47, Try.ntmps47
  go_wp2
  go_loop [5] (fun i => ∃ k : Nat, k ≤ zs.length ∧ i = .int .i64 k ∧ allTo (fun i => !(nth zs i == n)) k = true) (fun i => zs.length - (intOf i).toNat)
  case atStart => exact ⟨0, Nat.zero_le _, rfl, rfl⟩
  case round =>
    obtain ⟨k, hk, rfl, ha⟩ := hrel
    have HA : Hid (allTo (fun i => !(nth zs i == n)) k = true) := ha
    clear ha
    by_cases hlt : k < zs.length
    · obtain ⟨g, off, rfl, hg, hc⟩ := hr (by omega)
      have c1 := hc k hlt
      by_cases he : nth zs k = n
      · have hb : Hid (hasB zs n = true) := hasB_hit zs n k hlt he
        have d : (nth zs k == n) = true := by simpa using he
        clear he
        generalize nth zs k = z at *
        clear hr hc
        go_wp2
        go_ret
        exact ⟨ret_bool hb.out.symm, rfl⟩
      · have d : (nth zs k == n) = false := by simpa using he
        have HS : Hid (allTo (fun i => !(nth zs i == n)) (k + 1) = true) := allTo_snoc _ k HA.out (by simp [d])
        generalize nth zs k = z at *
        clear hr hc
        go_wp2
        go_round
        case rel => exact ⟨k + 1, by omega, by go_num, HS.out⟩
        case measure => simp [intOf]; omega
    · have hkl : k = zs.length := by omega
      subst hkl
      have hb : Hid (hasB zs n = false) := by unfold Hid hasB hasTo; rw [HA.out]; rfl
      clear hr
      go_wp2
      go_ret
      exact ⟨ret_bool hb.out.symm, rfl⟩

set_option maxHeartbeats 400000 in
theorem index_any (a : Option Addr) (cap : Nat) (zs : List Int) (n : Int) (w : World) (hz : zs.length ≤ 1099511627776) (hr : IntRow w a zs) :
    Calls Try.prog 51 #[.slice a zs.length cap, .int .i64 n] w fun e w' => ∃ v : Int, e = .returned (.int .i64 v) ∧ decide (0 ≤ v) = hasB zs n ∧ w' = w := by
  go_enter Try.func51, Try.ntmps51
  go_wp2
  go_loop [8] (fun i => ∃ k : Nat, k ≤ zs.length ∧ i = .int .i64 k ∧ allTo (fun i => !(nth zs i == n)) k = true) (fun i => zs.length - (intOf i).toNat)
  case atStart => exact ⟨0, Nat.zero_le _, rfl, rfl⟩
  case round =>
    obtain ⟨k, hk, rfl, ha⟩ := hrel
    have HA : Hid (allTo (fun i => !(nth zs i == n)) k = true) := ha
    clear ha
    by_cases hlt : k < zs.length
    · obtain ⟨g, off, rfl, hg, hc⟩ := hr (by omega)
      have c1 := hc k hlt
      by_cases he : nth zs k = n
      · have hb : Hid (hasB zs n = true) := hasB_hit zs n k hlt he
        have d : (n == nth zs k) = true := by simp [he]
        clear he
        generalize nth zs k = z at *
        clear hr hc
        go_wp2
        go_ret
        exact ⟨k, rfl, by rw [hb.out]; simp, rfl⟩
      · have d : (nth zs k == n) = false := by simpa using he
        have d' : (n == nth zs k) = false := by simpa using fun h => he h.symm
        have HS : Hid (allTo (fun i => !(nth zs i == n)) (k + 1) = true) := allTo_snoc _ k HA.out (by simp [d])
        clear he d
        generalize nth zs k = z at *
        clear hr hc
        go_wp2
        go_round
        case rel => exact ⟨k + 1, by omega, by go_num, HS.out⟩
        case measure => simp [intOf]; omega
    · have hkl : k = zs.length := by omega
      subst hkl
      have hb : Hid (hasB zs n = false) := by unfold Hid hasB hasTo; rw [HA.out]; rfl
      clear hr
      go_wp2
      go_ret
      exact ⟨-1, rfl, by rw [hb.out]; rfl, rfl⟩
theorem contains_any (a : Option Addr) (cap : Nat) (zs : List Int) (n : Int) (w : World) (hz : zs.length ≤ 1099511627776) (hr : IntRow w a zs) :
    Calls Try.prog 42 #[.slice a zs.length cap, .int .i64 n] w fun e w' => e = .returned (.bool (hasB zs n)) ∧ w' = w := by
  go_enter Try.func42, Try.ntmps42
  go_wp2_with fail
  refine (index_any a cap zs n _ hz hr).mono ?_
  rintro e w1 ⟨v, rfl, hv, rfl⟩
  have HV : Hid (decide (0 ≤ v) = hasB zs n) := hv
  clear hv hr
  go_wp2
  go_ret
  exact ⟨ret_bool HV.out, rfl⟩

theorem setHasI_any (a : Option Addr) (cap : Nat) (zs : List Int) (n : Int) (w : World) (hz : zs.length ≤ 1099511627776) (hr : IntRow w a zs) :
    Calls Try.prog 20 #[.slice a zs.length cap, .int .i64 n] w fun e w' => e = .returned (.bool (setB zs && hasB zs n)) ∧ w' = w := by
  cases hs : setB zs
  all_goals
    go_enter Try.func20, Try.ntmps20
    go_wp2_with (first | (go_at_call 18; refine (setI_any a cap zs _ hz hr).mono ?_; rintro e w1 ⟨rfl, rfl⟩) | (go_at_call 42; refine (contains_any a cap zs n _ hz hr).mono ?_; rintro e w1 ⟨rfl, rfl⟩))
    go_ret
    exact ⟨ret_bool (by simp), rfl⟩
theorem setHasS_any (a : Option Addr) (cap : Nat) (zs : List Int) (n : Int) (w : World) (hz : zs.length ≤ 1099511627776) (hr : IntRow w a zs) :
    Calls Try.prog 28 #[.slice a zs.length cap, .int .i64 n] w fun e w' => e = .returned (.bool (setB zs && hasB zs n)) ∧ Below w.heap.size w w' := by
  go_enter Try.func28, Try.ntmps28
  go_wp2_with fail
  refine (setS_any a cap zs _ hz hr).mono ?_
  rintro e w1 ⟨rfl, hb1⟩
  have r1 := hr.below hb1
  clear hr
  cases hs : setB zs
  · clear r1
    go_wp2
    go_ret
    exact ⟨ret_bool (by simp [hs]), hb1⟩
  · go_wp2_with fail
    refine (l3Has_any a cap zs n _ hz r1).mono ?_
    rintro e w2 ⟨rfl, rfl⟩
    clear r1
    go_wp2
    go_ret
    exact ⟨ret_bool (by simp [hs]), hb1⟩

theorem wFnExactSetHas (a0 : Option Addr) (cap0 : Nat) (zs : List Int) (n : Int) (w : World) (hz : zs.length ≤ maxLen) (hr : IntRow w a0 zs) :
    Calls Try.prog 13 #[.slice a0 zs.length cap0, .int .i64 n] w fun e w' => e = .returned (.bool true) ∧ Below w.heap.size w w' := by
  unfold maxLen at hz
  by_cases hbig : 1048576 < (zs.length : Int)
  · clear hr
    go_enter Try.func13, Try.ntmps13
    go_wp2
    go_ret
    exact ⟨rfl, Below.refl _ _⟩
  go_enter Try.func13, Try.ntmps13
  go_wp2_with fail
  refine (toIntS2_any a0 cap0 zs _ (by omega) hr).mono ?_
  rintro e u1 ⟨p1, c1, rfl, _, hr1, hb1⟩
  go_wp2_with fail
  refine (setHasS_any p1 c1 zs n _ (by omega) hr1).mono ?_
  rintro e u2 ⟨rfl, hb2⟩
  have r2 := hr.below (below_trans hb1 hb2)
  clear hr1
  go_wp2_with fail
  refine (toIntS2_any a0 cap0 zs _ (by omega) r2).mono ?_
  rintro e u3 ⟨p3, c3, rfl, _, hr3, hb3⟩
  go_wp2_with fail
  refine (setHasI_any p3 c3 zs n _ (by omega) hr3).mono ?_
  rintro e u4 ⟨rfl, rfl⟩
  have r3 := r2.below hb3
  clear r2
  go_wp2_with fail
  refine (toIntS2_any a0 cap0 zs _ (by omega) r3).mono ?_
  rintro e u5 ⟨p5, c5, rfl, _, hr5, hb5⟩
  have r35 := hr3.below hb5
  clear hr3 r3
  go_wp2_with fail
  refine (eqIntS_same p3 p5 c3 c5 zs _ (by omega) r35 hr5).mono ?_
  rintro e u6 ⟨rfl, hb6⟩
  clear hr r35 hr5
  go_wp2
  go_ret
  exact ⟨rfl, below_trans hb1 (below_trans hb2 (below_trans hb3 (below_trans hb5 hb6)))⟩
end Go.Proofs.Ytbmdfhognldkjaa
