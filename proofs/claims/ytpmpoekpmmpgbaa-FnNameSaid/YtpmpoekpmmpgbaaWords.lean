/- Contracts of isWordByte, wordEnd, and of spec.l1Part, spec.Words. -/
import Derived.Test.YtpmpoekpmmpgbaaWordsPlain
import Derived.Test.YtpmpoekpmmpgbaaFold
import Derived.Deep.DeepCutAuto
namespace Go.Proofs.Ytpmpoekpmmpgbaa
open Go.RowKit

theorem isWordByte_any (n : Int) (w : World) :
    Calls Try.prog 82 #[.int .u8 n] w fun e w' => e = .returned (.bool (partB n)) ∧ w = w' := by
  cases h1 : smallB n <;> cases h2 : greatB n <;> cases h3 : figureB n
  all_goals
    go_enter Try.func82, Try.ntmps82
    go_wp2_with (first | (go_at_call 46; refine (isSmall_any _ _).mono ?_; rintro e _ ⟨rfl, rfl⟩) | (go_at_call 50; refine (isGreat_any _ _).mono ?_; rintro e _ ⟨rfl, rfl⟩) | (go_at_call 45; refine (isFigure_any _ _).mono ?_; rintro e _ ⟨rfl, rfl⟩))
    go_ret
    exact ⟨ret_bool (by simp [partB, h1, h2, h3]), rfl⟩

theorem partB_low (n : Int) (h0 : 0 ≤ n) (h1 : n ≤ 255) : ((97 ≤ lowI n ∧ lowI n ≤ 122) ∨ (48 ≤ lowI n ∧ lowI n ≤ 57)) ↔ partB n = true := by
  by_cases h : 65 ≤ n ∧ n ≤ 90
  · rw [lowI_yes n h.1 h.2]
    simp [partB, smallB, greatB, figureB]
    omega
  · rw [lowI_no n (by omega)]
    simp [partB, smallB, greatB, figureB]
    omega

set_option maxHeartbeats 400000 in
theorem wordEnd_any (s : ByteArray) (i : Nat) (w : World) (hs : s.size ≤ 1099511627776) (hi : i ≤ s.size) :
    Calls Try.prog 72 #[.string s, .int .i64 i] w fun e w' => e = .returned (.int .i64 (wordEnd s i)) ∧ w = w' := by
  have r := wordEnd_end s i hi
  have hE := r.size
  have hE2 := r.le
  have HE : Hid (IsEnd s i (wordEnd s i)) := r
  clear r
  generalize wordEnd s i = E at *
  go_enter Try.func72, Try.ntmps72
  go_wp2
  go_loop [1] (fun t => ∃ j : Nat, i ≤ j ∧ j ≤ E ∧ t = .int .i64 j) (fun t => E - (intOf t).toNat)
  case atStart => exact ⟨i, Nat.le_refl _, hE2, rfl⟩
  case round =>
    obtain ⟨j, hj1, hj2, rfl⟩ := hrel
    by_cases hlt : j < E
    · have hjs : j < s.size := by omega
      have hp : partB ((s[j]'hjs).toNat : Int) = true := by rw [← byteAt_eq s j hjs]; exact HE.out.all j hj1 hlt
      go_wp2_with (go_at_call 82; refine (isWordByte_any _ _).mono ?_; rintro e _ ⟨rfl, rfl⟩)
      go_round
      case rel => exact ⟨j + 1, by omega, by omega, by go_num⟩
      case measure => simp [intOf]; omega
    · have hjE : j = E := by omega
      subst hjE
      by_cases hjs : j < s.size
      · have hp : partB ((s[j]'hjs).toNat : Int) = false := by rw [← byteAt_eq s j hjs]; exact HE.out.stop hjs
        go_wp2_with (go_at_call 82; refine (isWordByte_any _ _).mono ?_; rintro e _ ⟨rfl, rfl⟩)
        go_ret
        exact ⟨rfl, rfl⟩
      · go_wp2
        go_ret
        exact ⟨rfl, rfl⟩

theorem infoWord : (Try.prog.info? 43).map (fun i => (i.zero, i.size, i.bytes)) = some (some (.agg #[.string ⟨#[]⟩, .int .i64 0, .int .i64 0]), 3, 32) := by kernel_rfl

def wordCells (s : ByteArray) (l : List (Nat × Nat)) : List Value := l.flatMap fun x => [.string (s.extract x.1 x.2), .int .i64 x.1, .int .i64 x.2]
theorem wordCells_snoc (s : ByteArray) (l : List (Nat × Nat)) (a b : Nat) : wordCells s (l ++ [(a, b)]) = wordCells s l ++ [.string (s.extract a b), .int .i64 a, .int .i64 b] := by simp [wordCells]

theorem word_one (a : ByteArray) (b c : Int) : ∀ u ∈ [Value.string a, .int .i64 b, .int .i64 c], u.oneCell' = true := by
  intro u hu
  simp at hu
  rcases hu with rfl | rfl | rfl <;> rfl

end Go.Proofs.Ytpmpoekpmmpgbaa
