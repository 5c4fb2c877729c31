/- Which texts may stand in a cell: impl.isPlain, impl.textOk, spec.l2Text. -/
import Derived.Test.YtjjfabemhdhppaaGreatDoorIn
import Derived.Test.YtjjfabemhdhppaaGreatDoorPlain
import Derived.WalkKit
import Derived.ProofKit
import Derived.WalkSpells
import Derived.WalkLawsBesides
import Derived.WalkSmall
namespace Go.Proofs.YtjjfabemhdhppaaGreatDoor
open Go.RowKit

def seenB (s : ByteArray) (j : Nat) : Bool := decide (32 ≤ byteAt s j) && decide (byteAt s j ≤ 126)
/-- A text may stand in a cell. -/
def textB (s : ByteArray) : Bool := decide ((s.size : Int) ≤ 60) && allTo (seenB s) s.size
theorem textB_no (s : ByteArray) (k : Nat) (h : k < s.size) (hf : seenB s k = false) : textB s = false := by
  unfold textB
  rw [allTo_false _ _ k h hf]
  simp

def plainB (s : ByteArray) : Bool := allTo (seenB s) s.size

set_option maxHeartbeats 1000000 in
theorem isPlain_any (s : ByteArray) (w : World) (hs : s.size ≤ maxLen) :
    Calls Tryz.prog 65 #[.string s] w fun e w' => e = .returned (.bool (plainB s)) ∧ w' = w := by
  unfold maxLen at hs
  go_enter Tryz.func65, Tryz.ntmps65
  go_wp2
  go_loop [6] (fun i => ∃ k : Nat, k ≤ s.size ∧ i = .int .i64 k ∧ allTo (seenB s) k = true) (fun i => s.size - (intOf i).toNat)
  case atStart => exact ⟨0, Nat.zero_le _, rfl, rfl⟩
  case round =>
    obtain ⟨k, hk, rfl, ha⟩ := hrel
    have HA : Hid (allTo (seenB s) k = true) := ha
    clear ha
    by_cases hlt : k < s.size
    · have HS : Hid (seenB s k = (decide (32 ≤ ((s[k]'hlt).toNat : Int)) && decide (((s[k]'hlt).toNat : Int) ≤ 126))) := by unfold Hid seenB; rw [byteAt_eq s k hlt]
      have HNO : Hid (seenB s k = false → plainB s = false) := fun h => allTo_false _ _ k hlt h
      by_cases h1 : ((s[k]'hlt).toNat : Int) < 32
      · have hb : Hid (plainB s = false) := HNO.out (by rw [HS.out]; simp; omega)
        go_wp2
        go_ret
        exact ⟨ret_bool hb.out.symm, rfl⟩
      have d1 : decide (((s[k]'hlt).toNat : Int) < 32) = false := by simpa using h1
      by_cases h2 : 126 < ((s[k]'hlt).toNat : Int)
      · have hb : Hid (plainB s = false) := HNO.out (by rw [HS.out]; simp; omega)
        go_wp2
        go_ret
        exact ⟨ret_bool hb.out.symm, rfl⟩
      have d2 : decide (126 < ((s[k]'hlt).toNat : Int)) = false := by simpa using h2
      have HN : Hid (allTo (seenB s) (k + 1) = true) := allTo_snoc _ k HA.out (by rw [HS.out]; simp; omega)
      go_wp2
      go_round
      case rel => exact ⟨k + 1, by omega, by go_num, HN.out⟩
      case measure => simp [intOf]; omega
    · have hkl : k = s.size := by omega
      subst hkl
      have hb : Hid (plainB s = true) := HA.out
      go_wp2
      go_ret
      exact ⟨ret_bool hb.out.symm, rfl⟩
theorem textOk_any (s : ByteArray) (w : World) (hs : s.size ≤ maxLen) :
    Calls Tryz.prog 56 #[.string s] w fun e w' => e = .returned (.bool (textB s)) ∧ w' = w := by
  by_cases h60 : (s.size : Int) ≤ 60
  · have HB : Hid (textB s = plainB s) := by unfold Hid textB plainB; simp [h60]
    go_enter Tryz.func56, Tryz.ntmps56
    go_wp2_with fail
    refine (isPlain_any s _ hs).mono ?_
    rintro e w1 ⟨rfl, rfl⟩
    go_wp2
    go_ret
    exact ⟨ret_bool HB.out.symm, rfl⟩
  · have HB : Hid (textB s = false) := by unfold Hid textB; simp [h60]
    unfold maxLen at hs
    go_enter Tryz.func56, Tryz.ntmps56
    go_wp2
    go_ret
    exact ⟨ret_bool HB.out.symm, rfl⟩

set_option maxHeartbeats 1000000 in
theorem l2Text_any (s : ByteArray) (w : World) (hs : s.size ≤ maxLen) :
    Calls Tryz.prog 46 #[.string s] w fun e w' => e = .returned (.bool (textB s)) ∧ w' = w := by
  unfold maxLen at hs
  go_enter Tryz.func46, Tryz.ntmps46
  go_wp2
  go_loop [3] (fun i => ∃ k : Nat, k ≤ s.size ∧ i = .int .i64 k ∧ allTo (seenB s) k = true) (fun i => s.size - (intOf i).toNat)
  case atStart => exact ⟨0, Nat.zero_le _, rfl, rfl⟩
  case round =>
    obtain ⟨k, hk, rfl, ha⟩ := hrel
    have HA : Hid (allTo (seenB s) k = true) := ha
    clear ha
    by_cases hlt : k < s.size
    · have HS : Hid (seenB s k = inB ((s[k]'hlt).toNat : Int) 32 126) := by unfold Hid seenB inB; rw [byteAt_eq s k hlt]
      have HNO : Hid (seenB s k = false → textB s = false) := textB_no s k hlt
      have hbb := byteAt_bd s k
      rw [byteAt_eq s k hlt] at hbb
      obtain ⟨hb0, hb1⟩ := hbb
      cases h1 : inB ((s[k]'hlt).toNat : Int) 32 126 with
      | false =>
        have hb : Hid (textB s = false) := HNO.out (by rw [HS.out, h1])
        go_wp2_with fail
        refine (l1In_any ((s[k]'hlt).toNat : Int) 32 126 _).mono ?_
        rintro e w5 ⟨rfl, rfl⟩
        rw [h1]
        go_wp2
        go_ret
        exact ⟨ret_bool hb.out.symm, rfl⟩
      | true =>
        have HN : Hid (allTo (seenB s) (k + 1) = true) := allTo_snoc _ k HA.out (by rw [HS.out, h1])
        go_wp2_with fail
        refine (l1In_any ((s[k]'hlt).toNat : Int) 32 126 _).mono ?_
        rintro e w5 ⟨rfl, rfl⟩
        rw [h1]
        go_wp2
        go_round
        case rel => exact ⟨k + 1, by omega, by go_num, HN.out⟩
        case measure => simp [intOf]; omega
    · have hkl : k = s.size := by omega
      subst hkl
      have hb : Hid (textB s = decide ((s.size : Int) ≤ 60)) := by unfold Hid textB; rw [HA.out]; simp
      go_wp2
      go_ret
      exact ⟨ret_bool hb.out.symm, rfl⟩
end Go.Proofs.YtjjfabemhdhppaaGreatDoor
