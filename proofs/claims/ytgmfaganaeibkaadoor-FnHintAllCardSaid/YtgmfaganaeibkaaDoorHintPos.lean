/- l9Hint: the place of a text among hints. -/
import Derived.Test.YtgmfaganaeibkaaDoorHintCopy
namespace Go.Proofs.YtgmfaganaeibkaaDoor
open Go.RowKit
set_option linter.unusedVariables false

def ltH (hs : List Hn) (t : ByteArray) (i : Nat) : Bool := Op.bytesLess (hnat hs i).text.toList t.toList
/-- The place of a text, or where it would come. -/
def PosH (hs : List Hn) (t : ByteArray) (k : Nat) : Prop := k ≤ hs.length ∧ allTo (ltH hs t) k = true ∧ (k < hs.length → ltH hs t k = false)
def hereH (hs : List Hn) (t : ByteArray) (k : Nat) : Bool := decide (k < hs.length) && ((hnat hs k).text.toList == t.toList)

set_option maxRecDepth 100000 in
set_option maxHeartbeats 2000000 in
theorem l9Hint_any (a : Option Addr) (cap : Nat) (hs : List Hn) (t : ByteArray) (w : World) (hz : hs.length ≤ 1048576) (hr : HnRow w a hs) :
    Calls Tryd.prog 35 #[.slice a hs.length cap, .string t] w fun e w' => ∃ k : Nat, e = .returned (.tuple #[.int .i64 k, .bool (hereH hs t k)]) ∧ PosH hs t k ∧ Below w.heap.size w w' := by
  have HR : Hid (HnRow w a hs) := hr
  clear hr
  go_enter Tryd.func35, Tryd.ntmps35
  go_wp2
  go_loop [6] (fun i => ∃ k : Nat, k ≤ hs.length ∧ i = .int .i64 k ∧ allTo (ltH hs t) k = true) (fun i => hs.length - (intOf i).toNat)
  case atStart => exact ⟨0, Nat.zero_le _, rfl, rfl⟩
  case round =>
    obtain ⟨k, hk, rfl, ha⟩ := hrel
    have HA : Hid (allTo (ltH hs t) k = true) := ha
    clear ha
    by_cases hlt : k < hs.length
    · have hks : (k : Int) < (hs.length : Int) := by omega
      obtain ⟨g, off, rfl, hg, hc⟩ := HR.out (by omega)
      obtain ⟨c0, c1⟩ := hc k hlt
      have HL : Hid (ltH hs t k = Op.bytesLess (hnat hs k).text.toList t.toList) := rfl
      have HH : Hid (hereH hs t k = ((hnat hs k).text.toList == t.toList)) := by unfold Hid hereH; rw [decide_eq_true hlt, Bool.true_and]
      clear hc
      generalize hnat hs k = h0 at *
      obtain ⟨tx, x⟩ := h0
      simp only at c0 c1 HL HH
      cases hl : Op.bytesLess tx.toList t.toList with
      | true =>
        have HS : Hid (allTo (ltH hs t) (k + 1) = true) := allTo_snoc _ k HA.out (by rw [HL.out, hl])
        go_wp2
        go_round
        case rel => exact ⟨k + 1, by omega, by go_num, HS.out⟩
        case measure => simp [intOf]; omega
      | false =>
        have HP : Hid (PosH hs t k) := ⟨by omega, HA.out, fun _ => by rw [HL.out, hl]⟩
        go_wp2
        go_quiet (fail)
        go_wp2
        go_ret2
        exact ⟨k, by rw [HH.out]; rfl, HP.out, below_drewN (Below.refl _ _) _⟩
    · have hkl : k = hs.length := by omega
      have hkd : decide ((k : Int) < (hs.length : Int)) = false := decide_eq_false (by omega)
      have HP : Hid (PosH hs t k) := ⟨by omega, HA.out, fun h => absurd h hlt⟩
      have HH : Hid (hereH hs t k = false) := by unfold Hid hereH; rw [decide_eq_false hlt]; rfl
      subst hkl
      go_wp2
      go_quiet (fail)
      go_wp2
      go_ret2
      exact ⟨hs.length, by rw [HH.out]; rfl, HP.out, below_drewN (Below.refl _ _) _⟩
end Go.Proofs.YtgmfaganaeibkaaDoor
