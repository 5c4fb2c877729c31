/- HintsOk of the program and of the model. -/
import Derived.Test.YtjkimadnopeakaaGreatDoorHintPlain
import Derived.Test.YtjkimadnopeakaaGreatDoorHns
import Derived.Test.YtjkimadnopeakaaGreatDoorMg0FnExactMeets
import Derived.Test.YtjkimadnopeakaaGreatDoorStillOne
namespace Go.Proofs.YtjkimadnopeakaaGreatDoor
open Go.RowKit
set_option linter.unusedVariables false

def hnW (x : Int) : Bool := decide (1 ≤ x) && decide (x ≤ 999999999)
theorem wtx_len (s : ByteArray) : (wtx s).length = (wordsOn s 0).length := by simp [wtx]
theorem wtx_cell {w : World} {B g c : Nat} {s : ByteArray} (h : w.ownsRow B 140 3 (.slice (some ⟨g, 0, none⟩) (wordsOn s 0).length c) (wordsOn s 0).length (wordCells s (wordsOn s 0))) (k : Nat) (hk : k < (wtx s).length) : w.cell? ⟨g, k * 3, none⟩ = some (.string (pat (wtx s) k)) := by
  have hk' : k < (wordsOn s 0).length := by rw [← wtx_len]; exact hk
  rw [h.cellAt (k * 3) (by omega)]
  have : ∀ (l : List (Nat × Nat)) (k : Nat) (hk : k < l.length), (wordCells s l)[k * 3]? = some (.string (s.extract l[k].1 l[k].2)) := by
    intro l
    induction l with
    | nil => intro k hk; exact absurd hk (by simp)
    | cons x l ih =>
      intro k hk
      cases k with
      | zero => rfl
      | succ k =>
        have h2 := ih k (by simpa using hk)
        rw [show (k + 1) * 3 = k * 3 + 1 + 1 + 1 by omega]
        exact h2
  rw [this _ k hk', pat_get _ _ hk]
  simp [wtx]

set_option maxHeartbeats 1000000 in
theorem l5Words_any (s : ByteArray) (w : World) (hs : s.size ≤ 60) :
    Calls Tryz.prog 149 #[.string s] w fun e w' => e = .returned (.int .i64 (l5W s : Nat)) ∧ Below w.heap.size w w' := by
  have hN : (wtx s).length ≤ 60 := by rw [wtx_len]; have := wordsOn_len s s.size 0 (by omega); omega
  have HZ : Hid (∀ k, k ≤ (wtx s).length → (jw s k).size ≤ 101 * k) := fun k hk => jw_size s (by omega) k hk
  have HWL := wtx_len s
  go_enter Tryz.func149, Tryz.ntmps149
  go_wp2_with fail
  refine (wordsS_any s _ (by omega)).mono ?_
  rintro e w1 ⟨g, c, rfl, hown, hb1⟩
  have HC : Hid (∀ k, k < (wtx s).length → w1.cell? ⟨g, k * 3, none⟩ = some (.string (pat (wtx s) k))) := fun k hk => wtx_cell hown k hk
  rw [← HWL]
  have HL5 : Hid (l5W s = if ((jw s (wtx s).length).toList == s.toList) = true then (wtx s).length else 0) := rfl
  have HPZ : Hid (∀ k, k < (wtx s).length → (pat (wtx s) k).size ≤ 60) := fun k hk => by
    rw [pat_get _ _ hk]
    obtain ⟨x, hx, e⟩ := List.mem_map.1 (List.getElem_mem (l := wtx s) (n := k) hk)
    rw [← e, ByteArray.size_extract]
    omega
  obtain ⟨n, hn⟩ : ∃ n, (wtx s).length = n := ⟨_, rfl⟩
  rw [hn] at hN HZ HC HL5 HPZ
  rw [hn]
  clear HWL hown hn
  go_wp2
  go_loop [4, 5] (fun o i => ∃ k : Nat, k ≤ n ∧ i = .int .i64 k ∧ o = .string (jw s k)) (fun _ i => n - (intOf i).toNat)
  case atStart => exact ⟨0, Nat.zero_le _, rfl, rfl⟩
  case round =>
    obtain ⟨k, hk, rfl, rfl⟩ := hrel
    have hzk := HZ.out k hk
    by_cases hlt : k < n
    · have hks : (k : Int) < (n : Int) := by omega
      have c0 := HC.out k hlt
      have hpz := HPZ.out k hlt
      have HJ : Hid (jw s (k + 1) = (if k = 0 then jw s k else jw s k ++ ⟨#[32]⟩) ++ pat (wtx s) k) := rfl
      generalize pat (wtx s) k = p at *
      by_cases h0 : k = 0
      · subst h0
        have HJ2 : Hid (jw s (0 + 1) = jw s 0 ++ p) := HJ.out
        clear HJ
        generalize jw s 0 = q at *
        go_wp2
        go_round
        case rel => exact ⟨0 + 1, by omega, by go_num, by rw [HJ2.out]⟩
        case measure => simp [intOf]; omega
      · have hk0 : (0 : Int) < (k : Int) := by omega
        have HJ2 : Hid (jw s (k + 1) = jw s k ++ ⟨#[32]⟩ ++ p) := by unfold Hid; rw [HJ.out, if_neg h0]
        clear HJ
        generalize jw s k = q at *
        go_wp2
        go_round
        case rel => exact ⟨k + 1, by omega, by go_num, by rw [HJ2.out]⟩
        case measure => simp [intOf]; omega
    · have hkl : k = n := by omega
      subst hkl
      have hl5 := HL5.out
      clear HL5
      generalize jw s k = q at *
      cases hb : (q.toList == s.toList) with
      | false =>
        rw [hb] at hl5
        have H5 : Hid (l5W s = 0) := hl5
        clear hl5
        go_wp2
        go_ret
        exact ⟨by rw [H5.out]; rfl, hb1⟩
      | true =>
        rw [hb] at hl5
        have H5 : Hid (l5W s = k) := hl5
        clear hl5
        go_wp2
        go_ret
        exact ⟨by rw [H5.out]; rfl, hb1⟩

end Go.Proofs.YtjkimadnopeakaaGreatDoor
