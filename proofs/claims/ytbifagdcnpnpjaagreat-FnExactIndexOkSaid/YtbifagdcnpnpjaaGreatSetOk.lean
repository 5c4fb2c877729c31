/- impl.SetOk and spec.SetOk answer the same. -/
import Derived.Test.YtbifagdcnpnpjaaGreatMg5FnExactIndexOk
namespace Go.Proofs.YtbifagdcnpnpjaaGreat
open Go.RowKit

def okAt (lo hi : Int) (zs : List Int) (i : Nat) : Bool := decide (lo ≤ nth zs i) && decide (nth zs i ≤ hi) && (decide (i = 0) || decide (nth zs (i - 1) < nth zs i))
def ascB (lo hi : Int) (zs : List Int) : Bool := allTo (okAt lo hi zs) zs.length
def setB (zs : List Int) : Bool := decide ((zs.length : Int) ≤ 16) && ascB 0 999999999 zs

set_option maxHeartbeats 1000000 in
theorem isAscending_any (a : Option Addr) (cap : Nat) (lo hi : Int) (zs : List Int) (w : World) (hz : zs.length ≤ 1099511627776) (hr : IntRow w a zs) :
    Calls Tryz.prog 119 #[.slice a zs.length cap, .int .i64 lo, .int .i64 hi] w fun e w' => e = .returned (.bool (ascB lo hi zs)) ∧ w' = w := by
  go_enter Tryz.func119, Tryz.ntmps119
  go_wp2
  go_loop [11] (fun i => ∃ k : Nat, k ≤ zs.length ∧ i = .int .i64 k ∧ allTo (okAt lo hi zs) k = true) (fun i => zs.length - (intOf i).toNat)
  case atStart => exact ⟨0, Nat.zero_le _, rfl, rfl⟩
  case round =>
    obtain ⟨k, hk, rfl, ha⟩ := hrel
    have HA : Hid (allTo (okAt lo hi zs) k = true) := ha
    clear ha
    by_cases hlt : k < zs.length
    · obtain ⟨g, off, rfl, hg, hc⟩ := hr (by omega)
      have c1 := hc k hlt
      have HB : Hid (∀ b, okAt lo hi zs k = b → b = false → ascB lo hi zs = false) := fun b h1 h2 => allTo_false _ _ k hlt (by rw [h1, h2])
      have HO : Hid (okAt lo hi zs k = (decide (lo ≤ nth zs k) && decide (nth zs k ≤ hi) && (decide (k = 0) || decide (nth zs (k - 1) < nth zs k)))) := rfl
      by_cases h1 : nth zs k < lo
      · have hb : Hid (ascB lo hi zs = false) := HB.out _ rfl (by rw [HO.out]; simp; omega)
        generalize nth zs k = z at *
        clear hr hc
        go_wp2
        go_ret
        exact ⟨ret_bool hb.out.symm, rfl⟩
      by_cases h2 : hi < nth zs k
      · have hb : Hid (ascB lo hi zs = false) := HB.out _ rfl (by rw [HO.out]; simp; omega)
        have d1 : decide (nth zs k < lo) = false := by simpa using h1
        generalize nth zs k = z at *
        clear hr hc
        go_wp2
        go_ret
        exact ⟨ret_bool hb.out.symm, rfl⟩
      have d1 : decide (nth zs k < lo) = false := by simpa using h1
      have d2 : decide (hi < nth zs k) = false := by simpa using h2
      by_cases h3 : k = 0
      · subst h3
        have hok : okAt lo hi zs 0 = true := by rw [HO.out]; simp; omega
        have HS := allTo_snoc _ 0 HA.out hok
        rw [Nat.add_zero] at c1
        generalize nth zs 0 = z at *
        clear hr hc HO HB hok
        go_wp2
        go_round
        case rel => exact ⟨1, by omega, by go_num, HS⟩
        case measure => simp [intOf]; omega
      · obtain ⟨j, rfl⟩ : ∃ j, k = j + 1 := ⟨k - 1, by omega⟩
        have c0 := hc j (by omega)
        simp only [Nat.add_sub_cancel] at HO
        by_cases h4 : nth zs j < nth zs (j + 1)
        · have hok : okAt lo hi zs (j + 1) = true := by rw [HO.out]; simp; omega
          have HS := allTo_snoc _ (j + 1) HA.out hok
          have d4 : decide (nth zs (j + 1) ≤ nth zs j) = false := by simp; omega
          generalize nth zs (j + 1) = z at *
          generalize nth zs j = y at *
          clear hr hc HO HB hok
          go_wp2
          go_round
          case rel => exact ⟨j + 1 + 1, by omega, by go_num, HS⟩
          case measure => simp [intOf]; omega
        · have hb : Hid (ascB lo hi zs = false) := HB.out _ rfl (by rw [HO.out]; simp; omega)
          have d4 : decide (nth zs (j + 1) ≤ nth zs j) = true := by simp; omega
          generalize nth zs (j + 1) = z at *
          generalize nth zs j = y at *
          clear hr hc HO HB
          go_wp2
          go_ret
          exact ⟨ret_bool hb.out.symm, rfl⟩
    · have hkl : k = zs.length := by omega
      subst hkl
      clear hr
      go_wp2
      go_ret
      exact ⟨ret_bool HA.out.symm, rfl⟩

end Go.Proofs.YtbifagdcnpnpjaaGreat
