/- Contracts of isWordByte, wordEnd, and of spec.l1Part, spec.Words. -/
import Derived.Test.YtjkimadnopeakaaGreatDoorWordsPlain
import Derived.Test.YtjkimadnopeakaaGreatDoorFold
import Derived.Deep.DeepCutAuto
namespace Go.Proofs.YtjkimadnopeakaaGreatDoor
open Go.RowKit

theorem isWordByte_any (n : Int) (w : World) :
    Calls Tryz.prog 141 #[.int .u8 n] w fun e w' => e = .returned (.bool (partB n)) ∧ w = w' := by
  cases h1 : smallB n <;> cases h2 : greatB n <;> cases h3 : figureB n
  all_goals
    go_enter Tryz.func141, Tryz.ntmps141
    go_wp2_with (first | (go_at_call 136; refine (isSmall_any _ _).mono ?_; rintro e _ ⟨rfl, rfl⟩) | (go_at_call 154; refine (isGreat_any _ _).mono ?_; rintro e _ ⟨rfl, rfl⟩) | (go_at_call 135; refine (isFigure_any _ _).mono ?_; rintro e _ ⟨rfl, rfl⟩))
    go_ret
    exact ⟨ret_bool (by simp [partB, h1, h2, h3]), rfl⟩

theorem partB_low (n : Int) (h0 : 0 ≤ n) (h1 : n ≤ 255) : ((97 ≤ lowI n ∧ lowI n ≤ 122) ∨ (48 ≤ lowI n ∧ lowI n ≤ 57)) ↔ partB n = true := by
  by_cases h : 65 ≤ n ∧ n ≤ 90
  · rw [lowI_yes n h.1 h.2]
    simp [partB, smallB, greatB, figureB]
    omega
  · rw [lowI_no n (by omega)]
    simp [partB, smallB, greatB, figureB]
    omega

theorem l1Part_any (n : Int) (w : World) (h0 : 0 ≤ n) (h255 : n ≤ 255) :
    Calls Tryz.prog 167 #[.int .u8 n] w fun e w' => e = .returned (.bool (partB n)) ∧ w = w' := by
  have HP : Hid (((97 ≤ lowI n ∧ lowI n ≤ 122) ∨ (48 ≤ lowI n ∧ lowI n ≤ 57)) ↔ partB n = true) := partB_low n h0 h255
  rcases (show (97 ≤ lowI n ∧ lowI n ≤ 122) ∨ (122 < lowI n) ∨ (57 < lowI n ∧ lowI n < 97) ∨ (48 ≤ lowI n ∧ lowI n ≤ 57) ∨ lowI n < 48 from by omega) with ⟨h1, h2⟩ | h1 | ⟨h1, h2⟩ | ⟨h1, h2⟩ | h1
  · have hb : partB n = true := HP.out.1 (by omega)
    go_enter Tryz.func167, Tryz.ntmps167
    go_wp2_with (go_at_call 162; refine (l1Small_any _ _ h0 h255).mono ?_; rintro e _ ⟨rfl, rfl⟩)
    go_ret
    exact ⟨ret_bool (by rw [hb]), rfl⟩
  · have hb : partB n = false := by rw [← Bool.not_eq_true, ← HP.out]; omega
    have d1 : decide (lowI n ≤ 122) = false := by simp; omega
    have d2 : decide (lowI n ≤ 57) = false := by simp; omega
    go_enter Tryz.func167, Tryz.ntmps167
    go_wp2_with (go_at_call 162; refine (l1Small_any _ _ h0 h255).mono ?_; rintro e _ ⟨rfl, rfl⟩)
    go_ret
    exact ⟨ret_bool (by simp [hb]), rfl⟩
  · have hb : partB n = false := by rw [← Bool.not_eq_true, ← HP.out]; omega
    have d2 : decide (lowI n ≤ 57) = false := by simp; omega
    go_enter Tryz.func167, Tryz.ntmps167
    go_wp2_with (go_at_call 162; refine (l1Small_any _ _ h0 h255).mono ?_; rintro e _ ⟨rfl, rfl⟩)
    go_ret
    exact ⟨ret_bool (by simp), rfl⟩
  · have hb : partB n = true := HP.out.1 (by omega)
    go_enter Tryz.func167, Tryz.ntmps167
    go_wp2_with (go_at_call 162; refine (l1Small_any _ _ h0 h255).mono ?_; rintro e _ ⟨rfl, rfl⟩)
    go_ret
    exact ⟨ret_bool (by simp; try omega), rfl⟩
  · have hb : partB n = false := by rw [← Bool.not_eq_true, ← HP.out]; omega
    go_enter Tryz.func167, Tryz.ntmps167
    go_wp2_with (go_at_call 162; refine (l1Small_any _ _ h0 h255).mono ?_; rintro e _ ⟨rfl, rfl⟩)
    go_ret
    exact ⟨ret_bool (by simp), rfl⟩

set_option maxHeartbeats 400000 in
theorem wordEnd_any (s : ByteArray) (i : Nat) (w : World) (hs : s.size ≤ 1099511627776) (hi : i ≤ s.size) :
    Calls Tryz.prog 113 #[.string s, .int .i64 i] w fun e w' => e = .returned (.int .i64 (wordEnd s i)) ∧ w = w' := by
  have r := wordEnd_end s i hi
  have hE := r.size
  have hE2 := r.le
  have HE : Hid (IsEnd s i (wordEnd s i)) := r
  clear r
  generalize wordEnd s i = E at *
  go_enter Tryz.func113, Tryz.ntmps113
  go_wp2
  go_loop [1] (fun t => ∃ j : Nat, i ≤ j ∧ j ≤ E ∧ t = .int .i64 j) (fun t => E - (intOf t).toNat)
  case atStart => exact ⟨i, Nat.le_refl _, hE2, rfl⟩
  case round =>
    obtain ⟨j, hj1, hj2, rfl⟩ := hrel
    by_cases hlt : j < E
    · have hjs : j < s.size := by omega
      have hp : partB ((s[j]'hjs).toNat : Int) = true := by rw [← byteAt_eq s j hjs]; exact HE.out.all j hj1 hlt
      go_wp2_with (go_at_call 141; refine (isWordByte_any _ _).mono ?_; rintro e _ ⟨rfl, rfl⟩)
      go_round
      case rel => exact ⟨j + 1, by omega, by omega, by go_num⟩
      case measure => simp [intOf]; omega
    · have hjE : j = E := by omega
      subst hjE
      by_cases hjs : j < s.size
      · have hp : partB ((s[j]'hjs).toNat : Int) = false := by rw [← byteAt_eq s j hjs]; exact HE.out.stop hjs
        go_wp2_with (go_at_call 141; refine (isWordByte_any _ _).mono ?_; rintro e _ ⟨rfl, rfl⟩)
        go_ret
        exact ⟨rfl, rfl⟩
      · go_wp2
        go_ret
        exact ⟨rfl, rfl⟩

theorem infoWord : (Tryz.prog.info? 140).map (fun i => (i.zero, i.size, i.bytes)) = some (some (.agg #[.string ⟨#[]⟩, .int .i64 0, .int .i64 0]), 3, 32) := by kernel_rfl

def wordCells (s : ByteArray) (l : List (Nat × Nat)) : List Value := l.flatMap fun x => [.string (s.extract x.1 x.2), .int .i64 x.1, .int .i64 x.2]
theorem wordCells_snoc (s : ByteArray) (l : List (Nat × Nat)) (a b : Nat) : wordCells s (l ++ [(a, b)]) = wordCells s l ++ [.string (s.extract a b), .int .i64 a, .int .i64 b] := by simp [wordCells]

theorem word_one (a : ByteArray) (b c : Int) : ∀ u ∈ [Value.string a, .int .i64 b, .int .i64 c], u.oneCell' = true := by
  intro u hu
  simp at hu
  rcases hu with rfl | rfl | rfl <;> rfl

set_option maxHeartbeats 1000000 in
theorem wordsS_any (s : ByteArray) (w : World) (hs : s.size ≤ 1048576) :
    Calls Tryz.prog 159 #[.string s] w fun e w' => ∃ g cap, e = .returned (.slice (some ⟨g, 0, none⟩) (wordsOn s 0).length cap) ∧
      w'.ownsRow w.heap.size 140 3 (.slice (some ⟨g, 0, none⟩) (wordsOn s 0).length cap) (wordsOn s 0).length (wordCells s (wordsOn s 0)) ∧ Below w.heap.size w w' := by
  obtain ⟨i0, hi, hz0, hz1, hz2⟩ := info_parts infoWord
  go_enter Tryz.func159, Tryz.ntmps159
  go_wp2
  go_loopw [3, 4] (fun v i wr => ∃ (k : Nat) (acc : List (Nat × Nat)), k ≤ s.size ∧ acc.length ≤ k ∧ i = .int .i64 k ∧ acc ++ wordsOn s k = wordsOn s 0 ∧ wr.ownsRow w.heap.size 140 3 v acc.length (wordCells s acc) ∧ v ≠ .slice none 0 0 ∧ Below w.heap.size w wr) (fun _ i _ => s.size - (intOf i).toNat)
  case atStart => exact ⟨0, [], Nat.zero_le _, Nat.le_refl _, rfl, rfl, World.ownsRow_lit w #[] 0 (Nat.le_refl _) (by decide) rfl, nofun, (Below.refl _ w).alloc (Nat.le_refl _) _⟩
  case round =>
    obtain ⟨k, acc, hk, hacc, rfl, heq, hown, hnn, hbel⟩ := hrel
    have HQ : Hid (acc ++ wordsOn s k = wordsOn s 0) := heq
    clear heq
    by_cases hlt : k < s.size
    · have r := wordEnd_end s k hk
      have hE := r.size
      have hE2 := r.le
      have HE : Hid (IsEnd s k (wordEnd s k)) := r
      clear r
      have HN : Hid (wordEnd s k = k → wordsOn s k = wordsOn s (k + 1)) := wordsOn_none s k hlt
      have HW : Hid (¬ wordEnd s k = k → wordsOn s k = (k, wordEnd s k) :: wordsOn s (wordEnd s k)) := wordsOn_word s k hlt
      generalize wordEnd s k = E at *
      go_wp2
      go_loop [5] (fun t => ∃ j : Nat, k ≤ j ∧ j ≤ E ∧ t = .int .i64 j) (fun t => E - (intOf t).toNat)
      case atStart => exact ⟨k, Nat.le_refl _, hE2, rfl⟩
      case round =>
        obtain ⟨j, hj1, hj2, rfl⟩ := hrel
        by_cases hjlt : j < E
        · have hjs : j < s.size := by omega
          have hbd := byteAt_bd s j
          rw [byteAt_eq s j hjs] at hbd
          have hp : partB ((s[j]'hjs).toNat : Int) = true := by rw [← byteAt_eq s j hjs]; exact HE.out.all j hj1 hjlt
          go_wp2_with (go_at_call 167; refine (l1Part_any _ _ hbd.1 hbd.2).mono ?_; rintro e _ ⟨rfl, rfl⟩)
          go_round
          case rel => exact ⟨j + 1, by omega, by omega, by go_num⟩
          case measure => simp [intOf]; omega
        · have hjE : j = E := by omega
          subst hjE
          clear hjlt
          by_cases hjk : j = k
          · subst hjk
            have hb0 : ((j : Int) == (j : Int)) = true := by simp
            have hw := HN.out rfl
            have HW2 : Hid (acc ++ wordsOn s (j + 1) = wordsOn s 0) := by unfold Hid; rw [← hw]; exact HQ.out
            clear hw
            have hbd := byteAt_bd s j
            rw [byteAt_eq s j hlt] at hbd
            have hp : partB ((s[j]'hlt).toNat : Int) = false := by rw [← byteAt_eq s j hlt]; exact HE.out.stop hlt
            go_wp2_with (go_at_call 167; refine (l1Part_any _ _ hbd.1 hbd.2).mono ?_; rintro e _ ⟨rfl, rfl⟩)
            go_roundw
            case rel => exact ⟨j + 1, acc, by omega, by omega, by go_num, HW2.out, hown, hnn, hbel⟩
            case measure => simp [intOf]; omega
          · have hb0 : ((j : Int) == (k : Int)) = false := by simp; omega
            have HW2 : Hid ((acc ++ [(k, j)]) ++ wordsOn s j = wordsOn s 0) := by unfold Hid; rw [← HQ.out, HW.out hjk]; simp
            by_cases hjs : j < s.size
            · have hbd := byteAt_bd s j
              rw [byteAt_eq s j hjs] at hbd
              have hp : partB ((s[j]'hjs).toNat : Int) = false := by rw [← byteAt_eq s j hjs]; exact HE.out.stop hjs
              go_wp2_with (first | (go_at_call 167; refine (l1Part_any _ _ hbd.1 hbd.2).mono ?_; rintro e _ ⟨rfl, rfl⟩) | (at_builtin; refine wpList_append_own _ rfl _ _ 163 rfl w.heap.size 140 i0 (.agg #[.string ⟨#[]⟩, .int .i64 0, .int .i64 0]) 3 32 Tryz.underlying163 hi hz0 hz1 hz2 rfl (by decide) _ _ _ rfl (hown.alloc _) ⟨wr.heap.size, 0, none⟩ 1 1 [.string (s.extract k j), .int .i64 k, .int .i64 j] rfl rfl (cells_new _ _ _) (word_one _ _ _) (by unfold maxLen; omega) (by omega) (by have := hbel.size; simp; omega) ?_))
              intro v' w1 hown' hgrow hnil
              have hnn' : v' ≠ .slice none 0 0 := hnil
              clear hnil
              have hbel1 := hbel.size
              have hb2 : Below w.heap.size w w1 := (hbel.alloc hbel1 _).grown hgrow (by simp; omega) (fun x hx => (hown.lt x hx).1)
              rw [← wordCells_snoc s acc k j] at hown'
              have hl : (acc ++ [(k, j)]).length = acc.length + 1 := by simp
              rw [← hl] at hown'
              clear hgrow hown hl
              go_wp2
              go_roundw
              case rel => exact ⟨j, acc ++ [(k, j)], by omega, by simp; omega, rfl, HW2.out, hown', hnn', hb2⟩
              case measure => simp [intOf]; omega
            · go_wp2_with (at_builtin; refine wpList_append_own _ rfl _ _ 163 rfl w.heap.size 140 i0 (.agg #[.string ⟨#[]⟩, .int .i64 0, .int .i64 0]) 3 32 Tryz.underlying163 hi hz0 hz1 hz2 rfl (by decide) _ _ _ rfl (hown.alloc _) ⟨wr.heap.size, 0, none⟩ 1 1 [.string (s.extract k j), .int .i64 k, .int .i64 j] rfl rfl (cells_new _ _ _) (word_one _ _ _) (by unfold maxLen; omega) (by omega) (by have := hbel.size; simp; omega) ?_)
              intro v' w1 hown' hgrow hnil
              have hnn' : v' ≠ .slice none 0 0 := hnil
              clear hnil
              have hbel1 := hbel.size
              have hb2 : Below w.heap.size w w1 := (hbel.alloc hbel1 _).grown hgrow (by simp; omega) (fun x hx => (hown.lt x hx).1)
              rw [← wordCells_snoc s acc k j] at hown'
              have hl : (acc ++ [(k, j)]).length = acc.length + 1 := by simp
              rw [← hl] at hown'
              clear hgrow hown hl
              go_wp2
              go_roundw
              case rel => exact ⟨j, acc ++ [(k, j)], by omega, by simp; omega, rfl, HW2.out, hown', hnn', hb2⟩
              case measure => simp [intOf]; omega
    · have hk' : k = s.size := by omega
      subst hk'
      have he : acc = wordsOn s 0 := by rw [← HQ.out, wordsOn_past s _ (Nat.lt_irrefl _), List.append_nil]
      subst he
      rcases hown.2 with ⟨h0, _⟩ | ⟨g, cap, cur, rfl, hg⟩
      · exact absurd h0 hnn
      · go_wp2
        go_ret
        exact ⟨g, cap, rfl, hown, hbel⟩
end Go.Proofs.YtjkimadnopeakaaGreatDoor
