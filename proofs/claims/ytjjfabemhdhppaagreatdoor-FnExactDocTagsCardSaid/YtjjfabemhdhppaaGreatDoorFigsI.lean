/- figuresGet reads a number from 0 to NumMax. -/
import Derived.Test.YtjjfabemhdhppaaGreatDoorFigs
namespace Go.Proofs.YtjjfabemhdhppaaGreatDoor
open Go.RowKit
set_option linter.unusedVariables false

def figG (s : ByteArray) : Int := if figB s then (numB s : Int) else 0
theorem figG_no {s : ByteArray} (h : figB s = false) : figG s = 0 := by unfold figG; rw [h]; rfl
theorem figG_yes {s : ByteArray} (h : figB s = true) : figG s = (numB s : Int) := by unfold figG; rw [h]; rfl
theorem ret_fig {n n' : Int} {b b' : Bool} (h1 : n = n') (h2 : b = b') : Ending.returned (.tuple #[.int .i64 n, .bool b]) = .returned (.tuple #[.int .i64 n', .bool b']) := by rw [h1, h2]
theorem size_empty (s : ByteArray) (h : s.size = 0) : s = ⟨#[]⟩ := ba_ext (by
  have h' : s.data.toList.length = 0 := by simpa using h
  rw [List.eq_nil_of_length_eq_zero h'])
theorem size_noEmpty (s : ByteArray) (h : s.size ≠ 0) : s.toList.isEmpty = false := by
  rw [ByteArray.toList_eq]
  cases e : s.data.toList with
  | nil =>
    have h' : s.data.toList.length = 0 := by rw [e]; rfl
    exact absurd (by simpa using h') h
  | cons a b => rfl

set_option maxHeartbeats 1000000 in
theorem figuresGet_any (s : ByteArray) (w : World) (hs : s.size ≤ maxLen) :
    Calls Tryz.prog 59 #[.string s] w fun e w' => e = .returned (.tuple #[.int .i64 (figG s), .bool (figB s)]) ∧ w' = w := by
  unfold maxLen at hs
  by_cases h0 : s.size = 0
  · have hn : figB s = false := by simp [figB, h0]
    rw [figG_no hn, hn]
    have he := size_empty s h0
    subst he
    clear hn h0 hs
    go_enter Tryz.func59, Tryz.ntmps59
    go_wp2
    go_ret2
    exact ⟨rfl, rfl⟩
  have he := size_noEmpty s h0
  have hp : 0 < s.size := by omega
  by_cases h9 : 9 < s.size
  · have hn : figB s = false := by simp [figB]; omega
    rw [figG_no hn, hn]
    have h9' : 9 < (s.size : Int) := by omega
    clear hn
    go_enter Tryz.func59, Tryz.ntmps59
    go_wp2
    go_ret2
    exact ⟨rfl, rfl⟩
  have h9' : ¬ 9 < (s.size : Int) := by omega
  have hbt := byteAt_eq s 0 hp
  have HBT : Hid (byteAt s 0 = ((s[0]'hp).toNat : Int)) := hbt
  clear hbt
  by_cases hz : 1 < s.size ∧ ((s[0]'hp).toNat : Int) = 48
  · obtain ⟨h1, h2⟩ := hz
    have hn : figB s = false := by simp [figB, h1, HBT.out, h2]
    rw [figG_no hn, hn]
    have h1' : 1 < (s.size : Int) := by omega
    have h2b : ((((s[0]'hp).toNat : Int) == 48) = true) := by simpa using h2
    clear hn
    go_enter Tryz.func59, Tryz.ntmps59
    go_wp2
    go_ret2
    exact ⟨rfl, rfl⟩
  have HZ : Hid (¬ (1 < s.size ∧ byteAt s 0 = 48)) := by unfold Hid; rw [HBT.out]; exact hz
  have hgo : ((1 < (s.size : Int)) ∧ ((((s[0]'hp).toNat : Int) == 48) = false)) ∨ ¬ 1 < (s.size : Int) := by
    by_cases h1 : 1 < s.size
    · left
      exact ⟨by omega, by rw [beq_eq_false_iff_ne]; exact fun h2 => hz ⟨h1, h2⟩⟩
    · right
      omega
  clear hz HBT
  rcases hgo with ⟨h1', h2b⟩ | h1'
  all_goals
    go_enter Tryz.func59, Tryz.ntmps59
    go_wp2
    go_loop [4, 25] (fun n i => ∃ k : Nat, k ≤ s.size ∧ i = .int .i64 k ∧ n = .int .i64 (figN s k) ∧ figsTo s k = true) (fun _ i => s.size - (intOf i).toNat)
    case atStart => exact ⟨0, Nat.zero_le _, rfl, rfl, rfl⟩
    case round =>
      obtain ⟨k, hk, rfl, rfl, hf⟩ := hrel
      have HF : Hid (figsTo s k = true) := hf
      have hbd0 := figN_bd s k hf
      have hp9 : 10 ^ k ≤ 10 ^ 9 := Nat.pow_le_pow_right (by omega) (by omega)
      have hbd : figN s k < 1000000000 := by omega
      clear hf hbd0 hp9
      by_cases hlt : k < s.size
      · have hbt := byteAt_eq s k hlt
        have HBT : Hid (byteAt s k = ((s[k]'hlt).toNat : Int)) := hbt
        have hbb := byteAt_bd s k
        rw [hbt] at hbb
        clear hbt
        cases hfg : figureB ((s[k]'hlt).toNat : Int) with
        | false =>
          have hn : figB s = false := by
            refine figB_no_at hlt ?_
            rw [HBT.out]
            simp only [figureB, Bool.and_eq_false_iff, decide_eq_false_iff_not] at hfg
            omega
          have HNO : Hid (figB s = false) := hn
          clear hn
          go_wp2_with (go_at_call 63; refine (isFigure_any _ _).mono ?_; rintro e w' ⟨rfl, rfl⟩)
          go_ret2
          exact ⟨ret_fig (figG_no HNO.out).symm HNO.out.symm, rfl⟩
        | true =>
          have h48 := (figureB_iff _).1 hfg
          generalize hfn : figN s k = fn at *
          have HFN : Hid (figN s (k + 1) = 10 * fn + (((s[k]'hlt).toNat : Int) - 48).toNat) := by unfold Hid; rw [figN, HBT.out, hfn]
          go_wp2_with (go_at_call 63; refine (isFigure_any _ _).mono ?_; rintro e w' ⟨rfl, rfl⟩)
          go_round
          case rel => exact ⟨k + 1, by omega, by go_num, by rw [HFN.out]; go_num, allTo_snoc _ _ HF.out (by rw [HBT.out]; exact hfg)⟩
          case measure => simp [intOf]; omega
      · have hks : k = s.size := by omega
        subst hks
        have hy : figB s = true := by
          simp only [figB, Bool.and_eq_true, decide_eq_true_eq, Bool.not_eq_true', Bool.and_eq_false_iff, decide_eq_false_iff_not]
          refine ⟨⟨⟨by omega, by omega⟩, ?_⟩, HF.out⟩
          by_cases h1 : 1 < s.size
          · exact .inr fun h => HZ.out ⟨h1, h⟩
          · exact .inl h1
        have HYE : Hid (figB s = true) := hy
        clear hy
        go_wp2
        go_ret2
        exact ⟨ret_fig (figG_yes HYE.out).symm HYE.out.symm, rfl⟩
end Go.Proofs.YtjjfabemhdhppaaGreatDoor
