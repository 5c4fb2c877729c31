/- laws.eqStringS tells that two slices of the same strings are the same. -/
import Derived.Test.YtjjfabemhdhppaaGreatDoorStrRow
namespace Go.Proofs.YtjjfabemhdhppaaGreatDoor
open Go.RowKit
set_option maxHeartbeats 400000 in
theorem eqStringS_same (a b : Option Addr) (ca cb : Nat) (ss : List ByteArray) (w : World) (hl : ss.length ≤ 1099511627776) (ha : StrRow w a ss) (hb : StrRow w b ss) :
    Calls Tryz.prog 10 #[.slice a ss.length ca, .slice b ss.length cb] w fun e w' => e = .returned (.bool true) ∧ Below w.heap.size w w' := by
  go_enter Tryz.func10, Tryz.ntmps10
  go_wp2
  go_loopw [5] (fun i wr => ∃ k : Nat, k ≤ ss.length ∧ i = .int .i64 k ∧ Below w.heap.size w wr) (fun i _ => ss.length - (intOf i).toNat)
  case atStart => exact ⟨0, Nat.zero_le _, rfl, Below.refl _ _⟩
  case round =>
    obtain ⟨k, hk, rfl, hbel⟩ := hrel
    by_cases hlt : k < ss.length
    · obtain ⟨g1, rfl, hg1, hc1⟩ := ha (by omega)
      obtain ⟨g2, rfl, hg2, hc2⟩ := hb (by omega)
      have c1 : wr.cell? ⟨g1, k, none⟩ = some (.string (ss.getD k ⟨#[]⟩)) := by rw [hbel.cell (p := ⟨g1, k, none⟩) hg1]; exact hc1 k hlt
      have c2 : wr.cell? ⟨g2, k, none⟩ = some (.string (ss.getD k ⟨#[]⟩)) := by rw [hbel.cell (p := ⟨g2, k, none⟩) hg2]; exact hc2 k hlt
      clear ha hb hc1 hc2
      generalize ss.getD k ⟨#[]⟩ = t at *
      go_wp2
      go_quiet (fail)
      go_wp2
      go_roundw
      case rel => exact ⟨k + 1, by omega, by go_num, below_drewN hbel _⟩
      case measure => simp [intOf]; omega
    · clear ha hb
      go_wp2
      go_ret
      exact ⟨rfl, hbel⟩
end Go.Proofs.YtjjfabemhdhppaaGreatDoor
