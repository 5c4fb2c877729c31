/- Figures: l1Figures and figuresGet read the same numbers; a number in decimals is read back. -/
import Derived.Test.YtjjfabemhdhppaaGreatDoorBase
import Derived.Test.YtjjfabemhdhppaaGreatDoorLeaf
import Derived.Test.YtjjfabemhdhppaaGreatDoorCutPlain
import Derived.Test.YtjjfabemhdhppaaGreatDoorDec
namespace Go.Proofs.YtjjfabemhdhppaaGreatDoor
open Go.RowKit
set_option linter.unusedVariables false

/-- The number that the first k figures are. -/
def figN (s : ByteArray) : Nat → Nat
  | 0 => 0
  | k + 1 => 10 * figN s k + (byteAt s k - 48).toNat
def figsTo (s : ByteArray) (k : Nat) : Bool := allTo (fun j => figureB (byteAt s j)) k
def figB (s : ByteArray) : Bool := decide (1 ≤ s.size) && decide (s.size ≤ 9) && !(decide (1 < s.size) && decide (byteAt s 0 = 48)) && figsTo s s.size
def numB (s : ByteArray) : Nat := figN s s.size
theorem figureB_iff (n : Int) : figureB n = true ↔ 48 ≤ n ∧ n ≤ 57 := by simp [figureB]
theorem figN_bd (s : ByteArray) : ∀ k, figsTo s k = true → figN s k < 10 ^ k
  | 0, _ => by simp [figN]
  | k + 1, h => by
    unfold figsTo at h
    simp only [allTo, Bool.and_eq_true, figureB_iff] at h
    have ih := figN_bd s k h.1
    simp only [figN, Nat.pow_succ]
    omega
theorem figB_parts (s : ByteArray) (h : figB s = true) : 1 ≤ s.size ∧ s.size ≤ 9 ∧ (1 < s.size → byteAt s 0 ≠ 48) ∧ figsTo s s.size = true := by
  simp only [figB, Bool.and_eq_true, decide_eq_true_eq, Bool.not_eq_true', Bool.and_eq_false_iff, decide_eq_false_iff_not] at h
  obtain ⟨⟨⟨h1, h2⟩, h3⟩, h4⟩ := h
  exact ⟨h1, h2, fun h => by rcases h3 with h3 | h3 <;> omega, h4⟩
theorem figsTo_at {s : ByteArray} {k j : Nat} (h : figsTo s k = true) (hj : j < k) : 48 ≤ byteAt s j ∧ byteAt s j ≤ 57 := (figureB_iff _).1 ((allTo_iff _ _).1 h j hj)
theorem figsTo_le {s : ByteArray} {k j : Nat} (h : figsTo s k = true) (hj : j ≤ k) : figsTo s j = true := (allTo_iff _ _).2 fun i hi => (allTo_iff _ _).1 h i (by omega)
theorem numB_bd (s : ByteArray) (h : figB s = true) : numB s ≤ 999999999 := by
  obtain ⟨h1, h2, _, h4⟩ := figB_parts s h
  have := figN_bd s s.size h4
  have h9 : 10 ^ s.size ≤ 10 ^ 9 := Nat.pow_le_pow_right (by omega) h2
  unfold numB
  omega
theorem digD_byte (s : ByteArray) (k : Nat) (hk : k < s.size) (h : 48 ≤ byteAt s k ∧ byteAt s k ≤ 57) : s.data.toList[k]? = some (digD (byteAt s k - 48).toNat) := by
  rw [← byteAt_some s k _ hk, dig_toNat _ (by omega)]
  omega
theorem figN_pos (s : ByteArray) (h0 : byteAt s 0 ≠ 48) : ∀ k, figsTo s (k + 1) = true → 1 ≤ figN s (k + 1)
  | 0, h => by have := figsTo_at h (j := 0) (by omega); simp only [figN]; omega
  | k + 1, h => by have := figN_pos s h0 k (figsTo_le h (by omega)); rw [figN]; omega
theorem extract_snoc (s : ByteArray) (k : Nat) (b : UInt8) (hk : k < s.size) (h : s.data.toList[k]? = some b) : s.extract 0 (k + 1) = s.extract 0 k ++ ⟨#[b]⟩ := by
  apply ba_ext
  have hl : k < s.data.toList.length := by simpa using hk
  rw [ByteArray.data_append, Array.toList_append, Lib.extract_data, Lib.extract_data]
  simp only [List.drop_zero, Nat.sub_zero]
  rw [List.take_add_one, h]
  rfl
theorem dec_back_to (s : ByteArray) (h0 : 1 < s.size → byteAt s 0 ≠ 48) : ∀ k, k < s.size → figsTo s (k + 1) = true → decS (figN s (k + 1)) = s.extract 0 (k + 1)
  | 0, hk, h => by
    have hb := figsTo_at h (j := 0) (by omega)
    rw [extract_snoc s 0 _ hk (digD_byte s 0 hk hb), decS_small _ (by simp only [figN]; omega)]
    simp only [figN, Nat.mul_zero, Nat.zero_add]
    apply ba_ext
    rw [ByteArray.data_append, Array.toList_append, Lib.extract_data]
    simp
  | k + 1, hk, h => by
    have hb := figsTo_at h (j := k + 1) (by omega)
    have ih := dec_back_to s h0 k (by omega) (figsTo_le h (by omega))
    have hp := figN_pos s (h0 (by omega)) k (figsTo_le h (by omega))
    rw [extract_snoc s (k + 1) _ hk (digD_byte s (k + 1) hk hb), ← ih]
    have e : figN s (k + 1 + 1) = 10 * figN s (k + 1) + (byteAt s (k + 1) - 48).toNat := rfl
    rw [decS_big _ (by omega), e, show (10 * figN s (k + 1) + (byteAt s (k + 1) - 48).toNat) / 10 = figN s (k + 1) from by omega, show (10 * figN s (k + 1) + (byteAt s (k + 1) - 48).toNat) % 10 = (byteAt s (k + 1) - 48).toNat from by omega]
theorem dec_back (s : ByteArray) (h : figB s = true) : decS (numB s) = s := by
  obtain ⟨h1, h2, h3, h4⟩ := figB_parts s h
  have := dec_back_to s h3 (s.size - 1) (by omega) (by rw [show s.size - 1 + 1 = s.size from by omega]; exact h4)
  rw [show s.size - 1 + 1 = s.size from by omega, extract_all] at this
  exact this

def figR (s : ByteArray) : Int := if figB s then (numB s : Int) else -1
theorem figR_no {s : ByteArray} (h : figB s = false) : figR s = -1 := by unfold figR; rw [h]; rfl
theorem figR_yes {s : ByteArray} (h : figB s = true) : figR s = (numB s : Int) := by unfold figR; rw [h]; rfl
theorem figB_no_at {s : ByteArray} {k : Nat} (hk : k < s.size) (h : byteAt s k < 48 ∨ 57 < byteAt s k) : figB s = false := by
  have : figsTo s s.size = false := allTo_false _ _ k hk (by simp only [figureB]; rcases h with h | h <;> simp <;> omega)
  simp [figB, this]

set_option maxHeartbeats 1000000 in
theorem l1Figures_any (s : ByteArray) (w : World) (hs : s.size ≤ 1048576) :
    Calls Tryz.prog 53 #[.string s] w fun e w' => e = .returned (.int .i64 (figR s)) ∧ w' = w := by
  go_enter Tryz.func53, Tryz.ntmps53
  go_wp2
  go_loop [3, 4] (fun n i => ∃ k : Nat, k ≤ s.size ∧ k ≤ 9 ∧ i = .int .i64 k ∧ n = .int .i64 (figN s k) ∧ figsTo s k = true) (fun _ i => s.size - (intOf i).toNat)
  case atStart => exact ⟨0, Nat.zero_le _, Nat.zero_le _, rfl, rfl, rfl⟩
  case round =>
    obtain ⟨k, hk, hk9, rfl, rfl, hf⟩ := hrel
    have HF : Hid (figsTo s k = true) := hf
    have hbd0 := figN_bd s k hf
    have hp9 : 10 ^ k ≤ 10 ^ 9 := Nat.pow_le_pow_right (by omega) hk9
    have hbd : figN s k < 1000000000 := by omega
    clear hf hbd0 hp9
    by_cases hlt : k < s.size
    · have hbt := byteAt_eq s k hlt
      have HBT : Hid (byteAt s k = ((s[k]'hlt).toNat : Int)) := hbt
      have hbb := byteAt_bd s k
      rw [hbt] at hbb
      clear hbt
      by_cases h1 : ((s[k]'hlt).toNat : Int) < 48
      · go_wp2
        go_ret
        exact ⟨ret_int (by rw [figR_no (figB_no_at hlt (by rw [HBT.out]; omega))]), rfl⟩
      · by_cases h2 : 57 < ((s[k]'hlt).toNat : Int)
        · go_wp2
          go_ret
          exact ⟨ret_int (by rw [figR_no (figB_no_at hlt (by rw [HBT.out]; omega))]), rfl⟩
        · by_cases h3 : 9 ≤ k
          · have h3' : 9 ≤ (k : Int) := by omega
            go_wp2
            go_ret
            exact ⟨ret_int (by rw [figR_no (by simp [figB]; omega)]), rfl⟩
          · have h3' : ¬ 9 ≤ (k : Int) := by omega
            generalize hfn : figN s k = fn at *
            have HFN : Hid (figN s (k + 1) = 10 * fn + (((s[k]'hlt).toNat : Int) - 48).toNat) := by unfold Hid; rw [figN, HBT.out, hfn]
            go_wp2
            go_round
            case rel => exact ⟨k + 1, by omega, by omega, by go_num, by rw [HFN.out]; go_num, allTo_snoc _ _ HF.out (by rw [HBT.out]; exact (figureB_iff _).2 ⟨by omega, by omega⟩)⟩
            case measure => simp [intOf]; omega
    · have hks : k = s.size := by omega
      subst hks
      by_cases h0 : s.size = 0
      · go_wp2
        go_ret
        exact ⟨ret_int (by rw [figR_no (by simp [figB, h0])]), rfl⟩
      · have h0' : ¬ (s.size : Int) = 0 := by omega
        have hp : 0 < s.size := by omega
        have hbt := byteAt_eq s 0 hp
        have HBT : Hid (byteAt s 0 = ((s[0]'hp).toNat : Int)) := hbt
        clear hbt
        by_cases h1 : 1 < s.size
        · have h1' : 1 < (s.size : Int) := by omega
          by_cases h2 : ((s[0]'hp).toNat : Int) = 48
          · have h2b : ((((s[0]'hp).toNat : Int) == 48) = true) := by simpa using h2
            have h0b : (((s.size : Int) == 0) = false) := by simpa using h0'
            go_wp2
            go_ret
            exact ⟨ret_int (by rw [figR_no (by simp [figB, h1, HBT.out, h2])]), rfl⟩
          · have HY : Hid (figB s = true) := by unfold Hid; simp only [figB, Bool.and_eq_true, decide_eq_true_eq, Bool.not_eq_true', Bool.and_eq_false_iff, decide_eq_false_iff_not]; exact ⟨⟨⟨by omega, by omega⟩, .inr (by rw [HBT.out]; exact h2)⟩, HF.out⟩
            have h2b : ((((s[0]'hp).toNat : Int) == 48) = false) := by simpa using h2
            have h0b : (((s.size : Int) == 0) = false) := by simpa using h0'
            go_wp2
            go_ret
            exact ⟨ret_int (by rw [figR_yes HY.out]; rfl), rfl⟩
        · have h1' : ¬ 1 < (s.size : Int) := by omega
          have HY : Hid (figB s = true) := by unfold Hid; simp only [figB, Bool.and_eq_true, decide_eq_true_eq, Bool.not_eq_true', Bool.and_eq_false_iff, decide_eq_false_iff_not]; exact ⟨⟨⟨by omega, by omega⟩, .inl (by omega)⟩, HF.out⟩
          go_wp2
          go_ret
          exact ⟨ret_int (by rw [figR_yes HY.out]; rfl), rfl⟩
end Go.Proofs.YtjjfabemhdhppaaGreatDoor
