/- Which texts may stand in a cell: impl.isPlain, impl.textOk, spec.l2Text. -/
import Derived.Test.YtgmfaganaeibkaaDoorIn
import Derived.Test.YtgmfaganaeibkaaDoorPlain
import Derived.WalkKit
import Derived.ProofKit
import Derived.WalkSpells
import Derived.WalkLawsBesides
import Derived.WalkSmall
namespace Go.Proofs.YtgmfaganaeibkaaDoor
open Go.RowKit

def seenB (s : ByteArray) (j : Nat) : Bool := decide (32 ≤ byteAt s j) && decide (byteAt s j ≤ 126)
/-- A text may stand in a cell. -/
def textB (s : ByteArray) : Bool := decide ((s.size : Int) ≤ 60) && allTo (seenB s) s.size
theorem textB_no (s : ByteArray) (k : Nat) (h : k < s.size) (hf : seenB s k = false) : textB s = false := by
  unfold textB
  rw [allTo_false _ _ k h hf]
  simp

def plainB (s : ByteArray) : Bool := allTo (seenB s) s.size

set_option maxHeartbeats 1000000 in
theorem l2Text_any (s : ByteArray) (w : World) (hs : s.size ≤ maxLen) :
    Calls Tryd.prog 56 #[.string s] w fun e w' => e = .returned (.bool (textB s)) ∧ w' = w := by
  unfold maxLen at hs
  go_enter Tryd.func56, Tryd.ntmps56
  go_wp2
  go_loop [3] (fun i => ∃ k : Nat, k ≤ s.size ∧ i = .int .i64 k ∧ allTo (seenB s) k = true) (fun i => s.size - (intOf i).toNat)
  case atStart => exact ⟨0, Nat.zero_le _, rfl, rfl⟩
  case round =>
    obtain ⟨k, hk, rfl, ha⟩ := hrel
    have HA : Hid (allTo (seenB s) k = true) := ha
    clear ha
    by_cases hlt : k < s.size
    · have HS : Hid (seenB s k = inB ((s[k]'hlt).toNat : Int) 32 126) := by unfold Hid seenB inB; rw [byteAt_eq s k hlt]
      have HNO : Hid (seenB s k = false → textB s = false) := textB_no s k hlt
      have hbb := byteAt_bd s k
      rw [byteAt_eq s k hlt] at hbb
      obtain ⟨hb0, hb1⟩ := hbb
      cases h1 : inB ((s[k]'hlt).toNat : Int) 32 126 with
      | false =>
        have hb : Hid (textB s = false) := HNO.out (by rw [HS.out, h1])
        go_wp2_with fail
        refine (l1In_any ((s[k]'hlt).toNat : Int) 32 126 _).mono ?_
        rintro e w5 ⟨rfl, rfl⟩
        rw [h1]
        go_wp2
        go_ret
        exact ⟨ret_bool hb.out.symm, rfl⟩
      | true =>
        have HN : Hid (allTo (seenB s) (k + 1) = true) := allTo_snoc _ k HA.out (by rw [HS.out, h1])
        go_wp2_with fail
        refine (l1In_any ((s[k]'hlt).toNat : Int) 32 126 _).mono ?_
        rintro e w5 ⟨rfl, rfl⟩
        rw [h1]
        go_wp2
        go_round
        case rel => exact ⟨k + 1, by omega, by go_num, HN.out⟩
        case measure => simp [intOf]; omega
    · have hkl : k = s.size := by omega
      subst hkl
      have hb : Hid (textB s = decide ((s.size : Int) ≤ 60)) := by unfold Hid textB; rw [HA.out]; simp
      go_wp2
      go_ret
      exact ⟨ret_bool hb.out.symm, rfl⟩
end Go.Proofs.YtgmfaganaeibkaaDoor
