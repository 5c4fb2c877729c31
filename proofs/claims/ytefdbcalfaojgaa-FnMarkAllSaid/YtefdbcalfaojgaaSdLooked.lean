/- laws.sdHas, laws.sdLooked: how many of a list are looked for. -/
import Derived.Test.YtefdbcalfaojgaaSought
import Derived.Test.YtefdbcalfaojgaaSnip
namespace Go.Proofs.Ytefdbcalfaojgaa
open Go.RowKit

set_option maxHeartbeats 400000 in
theorem sdHas_any (a : Option Addr) (cap : Nat) (ts : List ByteArray) (x : ByteArray) (w : World) (hl : ts.length ≤ 1099511627776) (hr : StrRow w a ts) :
    Calls Try.prog 9 #[.slice a ts.length cap, .string x] w fun e w' => e = .returned (.bool (hasT ts x)) ∧ w' = w := by
  go_enter Try.func9, Try.ntmps9
  go_wp2
  go_loop [5] (fun i => ∃ k : Nat, k ≤ ts.length ∧ i = .int .i64 k ∧ noT ts x k = true) (fun i => ts.length - (intOf i).toNat)
  case atStart => exact ⟨0, Nat.zero_le _, rfl, rfl⟩
  case round =>
    obtain ⟨k, hk, rfl, hno⟩ := hrel
    have HN : Hid (noT ts x k = true) := hno
    clear hno
    by_cases hlt : k < ts.length
    · obtain ⟨g, rfl, hg, hc⟩ := hr (by omega)
      have c1 : w.cell? ⟨g, k, none⟩ = some (.string (tat ts k)) := hc k hlt
      have HY : Hid (((tat ts k).toList == x.toList) = true → hasT ts x = true) := fun h => hasT_yes hlt h
      have HS : Hid (((tat ts k).toList == x.toList) = false → noT ts x (k + 1) = true) := fun h => noT_snoc HN.out h
      clear hr hc
      generalize tat ts k = t at *
      cases he : (t.toList == x.toList) with
      | true =>
        have HT : Hid (hasT ts x = true) := HY.out he
        go_wp2
        go_ret
        exact ⟨ret_bool HT.out.symm, rfl⟩
      | false =>
        have HT : Hid (noT ts x (k + 1) = true) := HS.out he
        go_wp2
        go_round
        case rel => exact ⟨k + 1, by omega, by go_num, HT.out⟩
        case measure => simp [intOf]; omega
    · have hkl : k = ts.length := by omega
      subst hkl
      have HF : Hid (hasT ts x = false) := by unfold Hid hasT; rw [HN.out]; rfl
      clear hr
      go_wp2
      go_ret
      exact ⟨ret_bool HF.out.symm, rfl⟩
def lookB (ts ls : List ByteArray) (j : Nat) : Bool := !(tat ls j).toList.isEmpty && hasT ts (tat ls j)
end Go.Proofs.Ytefdbcalfaojgaa
