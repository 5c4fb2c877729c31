/- eqIntS tells that two slices of the same ints are the same. -/
import Derived.Test.YtbifagdcnpnpjaaGreatMg5FnExactIndexOk
namespace Go.Proofs.YtbifagdcnpnpjaaGreat
open Go.RowKit
set_option maxHeartbeats 400000 in
theorem eqIntS_same (a b : Option Addr) (ca cb : Nat) (zs : List Int) (w : World) (hl : zs.length ≤ 1099511627776) (ha : IntRow w a zs) (hb : IntRow w b zs) :
    Calls Tryz.prog 108 #[.slice a zs.length ca, .slice b zs.length cb] w fun e w' => e = .returned (.bool true) ∧ Below w.heap.size w w' := by
  go_enter Tryz.func108, Tryz.ntmps108
  go_wp2
  go_loopw [5] (fun i wr => ∃ k : Nat, k ≤ zs.length ∧ i = .int .i64 k ∧ Below w.heap.size w wr) (fun i _ => zs.length - (intOf i).toNat)
  case atStart => exact ⟨0, Nat.zero_le _, rfl, Below.refl _ _⟩
  case round =>
    obtain ⟨k, hk, rfl, hbel⟩ := hrel
    by_cases hlt : k < zs.length
    · obtain ⟨g1, o1, rfl, hg1, hc1⟩ := ha (by omega)
      obtain ⟨g2, o2, rfl, hg2, hc2⟩ := hb (by omega)
      have c1 := (hbel.cell (p := ⟨g1, o1 + k, none⟩) hg1).trans (hc1 k hlt)
      have c2 := (hbel.cell (p := ⟨g2, o2 + k, none⟩) hg2).trans (hc2 k hlt)
      clear ha hb hc1 hc2
      generalize nth zs k = t at *
      go_wp2
      go_quiet (fail)
      go_wp2
      go_roundw
      case rel => exact ⟨k + 1, by omega, by go_num, below_drewN hbel _⟩
      case measure => simp [intOf]; omega
    · clear ha hb
      go_wp2
      go_ret
      exact ⟨rfl, hbel⟩
end Go.Proofs.YtbifagdcnpnpjaaGreat
