/- impl.SetOk and spec.SetOk answer the same. -/
import Derived.Test.YthaobhghbopgkaaDoorIn
import Derived.Test.YthaobhghbopgkaaDoorBase
namespace Go.Proofs.YthaobhghbopgkaaDoor
open Go.RowKit

def okAt (lo hi : Int) (zs : List Int) (i : Nat) : Bool := decide (lo ≤ nth zs i) && decide (nth zs i ≤ hi) && (decide (i = 0) || decide (nth zs (i - 1) < nth zs i))
def ascB (lo hi : Int) (zs : List Int) : Bool := allTo (okAt lo hi zs) zs.length
def setB (zs : List Int) : Bool := decide ((zs.length : Int) ≤ 16) && ascB 0 999999999 zs

set_option maxHeartbeats 1000000 in
theorem isAscending_any (a : Option Addr) (cap : Nat) (lo hi : Int) (zs : List Int) (w : World) (hz : zs.length ≤ 1099511627776) (hr : IntRow w a zs) :
    Calls Tryd.prog 26 #[.slice a zs.length cap, .int .i64 lo, .int .i64 hi] w fun e w' => e = .returned (.bool (ascB lo hi zs)) ∧ w' = w := by
  go_enter Tryd.func26, Tryd.ntmps26
  go_wp2
  go_loop [11] (fun i => ∃ k : Nat, k ≤ zs.length ∧ i = .int .i64 k ∧ allTo (okAt lo hi zs) k = true) (fun i => zs.length - (intOf i).toNat)
  case atStart => exact ⟨0, Nat.zero_le _, rfl, rfl⟩
  case round =>
    obtain ⟨k, hk, rfl, ha⟩ := hrel
    have HA : Hid (allTo (okAt lo hi zs) k = true) := ha
    clear ha
    by_cases hlt : k < zs.length
    · obtain ⟨g, off, rfl, hg, hc⟩ := hr (by omega)
      have c1 := hc k hlt
      have HB : Hid (∀ b, okAt lo hi zs k = b → b = false → ascB lo hi zs = false) := fun b h1 h2 => allTo_false _ _ k hlt (by rw [h1, h2])
      have HO : Hid (okAt lo hi zs k = (decide (lo ≤ nth zs k) && decide (nth zs k ≤ hi) && (decide (k = 0) || decide (nth zs (k - 1) < nth zs k)))) := rfl
      by_cases h1 : nth zs k < lo
      · have hb : Hid (ascB lo hi zs = false) := HB.out _ rfl (by rw [HO.out]; simp; omega)
        generalize nth zs k = z at *
        clear hr hc
        go_wp2
        go_ret
        exact ⟨ret_bool hb.out.symm, rfl⟩
      by_cases h2 : hi < nth zs k
      · have hb : Hid (ascB lo hi zs = false) := HB.out _ rfl (by rw [HO.out]; simp; omega)
        have d1 : decide (nth zs k < lo) = false := by simpa using h1
        generalize nth zs k = z at *
        clear hr hc
        go_wp2
        go_ret
        exact ⟨ret_bool hb.out.symm, rfl⟩
      have d1 : decide (nth zs k < lo) = false := by simpa using h1
      have d2 : decide (hi < nth zs k) = false := by simpa using h2
      by_cases h3 : k = 0
      · subst h3
        have hok : okAt lo hi zs 0 = true := by rw [HO.out]; simp; omega
        have HS := allTo_snoc _ 0 HA.out hok
        rw [Nat.add_zero] at c1
        generalize nth zs 0 = z at *
        clear hr hc HO HB hok
        go_wp2
        go_round
        case rel => exact ⟨1, by omega, by go_num, HS⟩
        case measure => simp [intOf]; omega
      · obtain ⟨j, rfl⟩ : ∃ j, k = j + 1 := ⟨k - 1, by omega⟩
        have c0 := hc j (by omega)
        simp only [Nat.add_sub_cancel] at HO
        by_cases h4 : nth zs j < nth zs (j + 1)
        · have hok : okAt lo hi zs (j + 1) = true := by rw [HO.out]; simp; omega
          have HS := allTo_snoc _ (j + 1) HA.out hok
          have d4 : decide (nth zs (j + 1) ≤ nth zs j) = false := by simp; omega
          generalize nth zs (j + 1) = z at *
          generalize nth zs j = y at *
          clear hr hc HO HB hok
          go_wp2
          go_round
          case rel => exact ⟨j + 1 + 1, by omega, by go_num, HS⟩
          case measure => simp [intOf]; omega
        · have hb : Hid (ascB lo hi zs = false) := HB.out _ rfl (by rw [HO.out]; simp; omega)
          have d4 : decide (nth zs (j + 1) ≤ nth zs j) = true := by simp; omega
          generalize nth zs (j + 1) = z at *
          generalize nth zs j = y at *
          clear hr hc HO HB
          go_wp2
          go_ret
          exact ⟨ret_bool hb.out.symm, rfl⟩
    · have hkl : k = zs.length := by omega
      subst hkl
      clear hr
      go_wp2
      go_ret
      exact ⟨ret_bool HA.out.symm, rfl⟩

theorem setI_any (a : Option Addr) (cap : Nat) (zs : List Int) (w : World) (hz : zs.length ≤ 1099511627776) (hr : IntRow w a zs) :
    Calls Tryd.prog 10 #[.slice a zs.length cap] w fun e w' => e = .returned (.bool (setB zs)) ∧ w' = w := by
  by_cases h : (zs.length : Int) ≤ 16
  · go_enter Tryd.func10, Tryd.ntmps10
    go_wp2_with fail
    refine (isAscending_any a cap 0 999999999 zs _ hz hr).mono ?_
    rintro e w1 ⟨rfl, rfl⟩
    clear hr
    go_wp2
    go_ret
    exact ⟨ret_bool (by simp [setB, h]), rfl⟩
  · have HS : Hid (setB zs = false) := by unfold Hid; simp [setB]; omega
    clear hr
    go_enter Tryd.func10, Tryd.ntmps10
    go_wp2
    go_ret
    exact ⟨ret_bool (by rw [HS.out]), rfl⟩

set_option maxHeartbeats 1000000 in
theorem setS_any (a : Option Addr) (cap : Nat) (zs : List Int) (w : World) (hz : zs.length ≤ 1099511627776) (hr : IntRow w a zs) :
    Calls Tryd.prog 24 #[.slice a zs.length cap] w fun e w' => e = .returned (.bool (setB zs)) ∧ Below w.heap.size w w' := by
  go_enter Tryd.func24, Tryd.ntmps24
  go_wp2
  go_loopw [3] (fun i wr => ∃ k : Nat, k ≤ zs.length ∧ i = .int .i64 k ∧ allTo (okAt 0 999999999 zs) k = true ∧ Below w.heap.size w wr) (fun i _ => zs.length - (intOf i).toNat)
  case atStart => exact ⟨0, Nat.zero_le _, rfl, rfl, Below.refl _ _⟩
  case round =>
    obtain ⟨k, hk, rfl, ha, hbel⟩ := hrel
    have HA : Hid (allTo (okAt 0 999999999 zs) k = true) := ha
    clear ha
    by_cases hlt : k < zs.length
    · obtain ⟨g, off, rfl, hg, hc⟩ := hr (by omega)
      have c1 := (hbel.cell (p := ⟨g, off + k, none⟩) hg).trans (hc k hlt)
      have HB : Hid (∀ b, okAt 0 999999999 zs k = b → b = false → setB zs = false) := fun b h1 h2 => by rw [setB, show ascB 0 999999999 zs = false from allTo_false _ _ k hlt (by rw [h1, h2])]; simp
      have HO : Hid (okAt 0 999999999 zs k = (decide (0 ≤ nth zs k) && decide (nth zs k ≤ 999999999) && (decide (k = 0) || decide (nth zs (k - 1) < nth zs k)))) := rfl
      by_cases h1 : 0 ≤ nth zs k ∧ nth zs k ≤ 999999999
      · have hin : inB (nth zs k) 0 999999999 = true := by simp [inB, h1.1, h1.2]
        by_cases h3 : k = 0
        · subst h3
          have hok : okAt 0 999999999 zs 0 = true := by rw [HO.out]; simp; omega
          have HS : Hid (allTo (okAt 0 999999999 zs) 1 = true) := allTo_snoc _ 0 HA.out hok
          rw [Nat.add_zero] at c1
          generalize nth zs 0 = z at *
          clear hr hc HO HB hok h1
          go_wp2
          go_quiet ((go_at_call 39; exact Calls.quiet_of_same (l1In_any _ _ _ _)))
          go_wp2
          go_roundw
          case rel => exact ⟨1, by omega, by go_num, HS.out, below_drewN hbel _⟩
          case measure => simp [intOf]; omega
        · obtain ⟨j, rfl⟩ : ∃ j, k = j + 1 := ⟨k - 1, by omega⟩
          have c0 := (hbel.cell (p := ⟨g, off + j, none⟩) hg).trans (hc j (by omega))
          simp only [Nat.add_sub_cancel] at HO
          have i1 : (j : Int) + 1 < (zs.length : Int) := by omega
          have i2 : (j : Int) < (zs.length : Int) := by omega
          have i3 : (0 : Int) < (j : Int) + 1 := by omega
          by_cases h4 : nth zs j < nth zs (j + 1)
          · have hok : okAt 0 999999999 zs (j + 1) = true := by rw [HO.out]; simp; omega
            have HS : Hid (allTo (okAt 0 999999999 zs) (j + 1 + 1) = true) := allTo_snoc _ (j + 1) HA.out hok
            have d4 : decide (nth zs (j + 1) ≤ nth zs j) = false := by simp; omega
            generalize nth zs (j + 1) = z at *
            generalize nth zs j = y at *
            clear hr hc HO HB hok h1
            go_wp2
            go_quiet ((go_at_call 39; exact Calls.quiet_of_same (l1In_any _ _ _ _)))
            go_wp2
            go_roundw
            case rel => exact ⟨j + 1 + 1, by omega, by go_num, HS.out, below_drewN hbel _⟩
            case measure => simp [intOf]; omega
          · have hb : Hid (setB zs = false) := HB.out _ rfl (by rw [HO.out]; simp; omega)
            have d4 : decide (nth zs (j + 1) ≤ nth zs j) = true := by simp; omega
            generalize nth zs (j + 1) = z at *
            generalize nth zs j = y at *
            clear hr hc HO HB h1
            go_wp2
            go_quiet ((go_at_call 39; exact Calls.quiet_of_same (l1In_any _ _ _ _)))
            go_wp2
            go_ret
            exact ⟨ret_bool hb.out.symm, below_drewN hbel _⟩
      · have hin : inB (nth zs k) 0 999999999 = false := by simp [inB]; omega
        have hb : Hid (setB zs = false) := HB.out _ rfl (by rw [HO.out]; simp; omega)
        have i2 : (k : Int) < (zs.length : Int) := by omega
        generalize nth zs k = z at *
        clear hr hc HO HB h1
        go_wp2
        go_quiet ((go_at_call 39; exact Calls.quiet_of_same (l1In_any _ _ _ _)))
        go_wp2
        go_ret
        exact ⟨ret_bool hb.out.symm, below_drewN hbel _⟩
    · have hkl : k = zs.length := by omega
      subst hkl
      have HS : Hid (setB zs = decide ((zs.length : Int) ≤ 16)) := by unfold Hid; rw [setB, show ascB 0 999999999 zs = true from HA.out]; simp
      clear hr
      go_wp2
      go_ret
      exact ⟨ret_bool (by rw [HS.out]), hbel⟩
end Go.Proofs.YthaobhghbopgkaaDoor
