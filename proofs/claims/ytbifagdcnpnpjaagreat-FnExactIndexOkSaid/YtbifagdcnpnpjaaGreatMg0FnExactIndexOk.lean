/- Words, Clone, Iter, IterLaw, Stem, IterTerm, StrRow, TermsS, Fidx, KindB, TextOk, DocForm, DocForm2, JoinPlain, CutPlain, Dec, Figs, CutPat, DocOkPlain, FigsI, Shelf, SplitAny, NumTag, L1Cut, AddS, L2Add, DocForm3, L2Tags, DocOkS, IdxMadeS, NilT, in one text. -/
import Derived.Test.YtbifagdcnpnpjaaGreatWordsPlain
import Derived.Test.YtbifagdcnpnpjaaGreatFold
import Derived.Deep.DeepCutAuto
import Derived.Test.YtbifagdcnpnpjaaGreatMg5FnExactIndexOk
import Derived.Lib.Strings
import Derived.Lib.BufferWrite
import Derived.Lib.UnsafeStr
import Derived.Laws.MakeOwn
import Derived.Test.YtbifagdcnpnpjaaGreatCommon
import Derived.RangeFuncNested
import Derived.RangeFuncLeaves
import Derived.Shelf.Abstract
import Derived.OwnWalkIn
import Derived.TacticsInMore
import Derived.LoopNIn
import Derived.LoopIn
import Derived.Shelf.RegionOpen
import Derived.Laws.IdiomStrings
import Derived.Deep.QuietTactic
import Derived.BigQuiet
import Derived.WalkSmall
import Derived.Test.YtbifagdcnpnpjaaGreatFldsOk3
import Derived.WalkKit
import Derived.ProofKit
import Derived.WalkSpells
import Derived.WalkLawsBesides
import Derived.Lib.Join
import Derived.Lib.SplitLaws
import Derived.Lib.IndexBytes
import Derived.Test.YtbifagdcnpnpjaaGreatBlk
import Derived.Lib.ItoaNum
import Derived.Lib.ItoaLen
import Derived.Shelf.Small.Wraps
import Derived.Shelf.Strings.Search1
import Derived.Shelf.Strings.Search2
import Derived.Shelf.Strings.Search3
import Derived.Shelf.Strings.Count
import Derived.Shelf.LaysM
import Derived.Shelf.Strings.Shaped
import Derived.Shelf.Strings.Prefix
import Derived.Shelf.Strings.Split
import Derived.Shelf.Strings.SplitShaped
import Derived.Shelf.Unicode.DecodeSlow
import Derived.Shelf.Slices.Equal
import Derived.Test.YtbifagdcnpnpjaaGreatProg
import Derived.Test.YtbifagdcnpnpjaaGreatTagsPlain
import Derived.Deep.AppendLies
import Derived.Deep.RegionLaw
import Derived.Test.YtbifagdcnpnpjaaGreatStillOne
import Derived.Test.YtbifagdcnpnpjaaGreatIdxWordS2
/- Contracts of isWordByte, wordEnd, and of spec.l1Part, spec.Words. -/
namespace Go.Proofs.YtbifagdcnpnpjaaGreat
open Go.RowKit

theorem isWordByte_any (n : Int) (w : World) :
    Calls Tryz.prog 159 #[.int .u8 n] w fun e w' => e = .returned (.bool (partB n)) ∧ w = w' := by
  cases h1 : smallB n <;> cases h2 : greatB n <;> cases h3 : figureB n
  all_goals
    go_enter Tryz.func159, Tryz.ntmps159
    go_wp2_with (first | (go_at_call 135; refine (isSmall_any _ _).mono ?_; rintro e _ ⟨rfl, rfl⟩) | (go_at_call 164; refine (isGreat_any _ _).mono ?_; rintro e _ ⟨rfl, rfl⟩) | (go_at_call 134; refine (isFigure_any _ _).mono ?_; rintro e _ ⟨rfl, rfl⟩))
    go_ret
    exact ⟨ret_bool (by simp [partB, h1, h2, h3]), rfl⟩

theorem partB_low (n : Int) (h0 : 0 ≤ n) (h1 : n ≤ 255) : ((97 ≤ lowI n ∧ lowI n ≤ 122) ∨ (48 ≤ lowI n ∧ lowI n ≤ 57)) ↔ partB n = true := by
  by_cases h : 65 ≤ n ∧ n ≤ 90
  · rw [lowI_yes n h.1 h.2]
    simp [partB, smallB, greatB, figureB]
    omega
  · rw [lowI_no n (by omega)]
    simp [partB, smallB, greatB, figureB]
    omega

theorem l1Part_any (n : Int) (w : World) (h0 : 0 ≤ n) (h255 : n ≤ 255) :
    Calls Tryz.prog 143 #[.int .u8 n] w fun e w' => e = .returned (.bool (partB n)) ∧ w = w' := by
  have HP : Hid (((97 ≤ lowI n ∧ lowI n ≤ 122) ∨ (48 ≤ lowI n ∧ lowI n ≤ 57)) ↔ partB n = true) := partB_low n h0 h255
  rcases (show (97 ≤ lowI n ∧ lowI n ≤ 122) ∨ (122 < lowI n) ∨ (57 < lowI n ∧ lowI n < 97) ∨ (48 ≤ lowI n ∧ lowI n ≤ 57) ∨ lowI n < 48 from by omega) with ⟨h1, h2⟩ | h1 | ⟨h1, h2⟩ | ⟨h1, h2⟩ | h1
  · have hb : partB n = true := HP.out.1 (by omega)
    go_enter Tryz.func143, Tryz.ntmps143
    go_wp2_with (go_at_call 155; refine (l1Small_any _ _ h0 h255).mono ?_; rintro e _ ⟨rfl, rfl⟩)
    go_ret
    exact ⟨ret_bool (by rw [hb]), rfl⟩
  · have hb : partB n = false := by rw [← Bool.not_eq_true, ← HP.out]; omega
    have d1 : decide (lowI n ≤ 122) = false := by simp; omega
    have d2 : decide (lowI n ≤ 57) = false := by simp; omega
    go_enter Tryz.func143, Tryz.ntmps143
    go_wp2_with (go_at_call 155; refine (l1Small_any _ _ h0 h255).mono ?_; rintro e _ ⟨rfl, rfl⟩)
    go_ret
    exact ⟨ret_bool (by simp [hb]), rfl⟩
  · have hb : partB n = false := by rw [← Bool.not_eq_true, ← HP.out]; omega
    have d2 : decide (lowI n ≤ 57) = false := by simp; omega
    go_enter Tryz.func143, Tryz.ntmps143
    go_wp2_with (go_at_call 155; refine (l1Small_any _ _ h0 h255).mono ?_; rintro e _ ⟨rfl, rfl⟩)
    go_ret
    exact ⟨ret_bool (by simp), rfl⟩
  · have hb : partB n = true := HP.out.1 (by omega)
    go_enter Tryz.func143, Tryz.ntmps143
    go_wp2_with (go_at_call 155; refine (l1Small_any _ _ h0 h255).mono ?_; rintro e _ ⟨rfl, rfl⟩)
    go_ret
    exact ⟨ret_bool (by simp; try omega), rfl⟩
  · have hb : partB n = false := by rw [← Bool.not_eq_true, ← HP.out]; omega
    go_enter Tryz.func143, Tryz.ntmps143
    go_wp2_with (go_at_call 155; refine (l1Small_any _ _ h0 h255).mono ?_; rintro e _ ⟨rfl, rfl⟩)
    go_ret
    exact ⟨ret_bool (by simp), rfl⟩

set_option maxHeartbeats 400000 in
theorem wordEnd_any (s : ByteArray) (i : Nat) (w : World) (hs : s.size ≤ 1099511627776) (hi : i ≤ s.size) :
    Calls Tryz.prog 151 #[.string s, .int .i64 i] w fun e w' => e = .returned (.int .i64 (wordEnd s i)) ∧ w = w' := by
  have r := wordEnd_end s i hi
  have hE := r.size
  have hE2 := r.le
  have HE : Hid (IsEnd s i (wordEnd s i)) := r
  clear r
  generalize wordEnd s i = E at *
  go_enter Tryz.func151, Tryz.ntmps151
  go_wp2
  go_loop [1] (fun t => ∃ j : Nat, i ≤ j ∧ j ≤ E ∧ t = .int .i64 j) (fun t => E - (intOf t).toNat)
  case atStart => exact ⟨i, Nat.le_refl _, hE2, rfl⟩
  case round =>
    obtain ⟨j, hj1, hj2, rfl⟩ := hrel
    by_cases hlt : j < E
    · have hjs : j < s.size := by omega
      have hp : partB ((s[j]'hjs).toNat : Int) = true := by rw [← byteAt_eq s j hjs]; exact HE.out.all j hj1 hlt
      go_wp2_with (go_at_call 159; refine (isWordByte_any _ _).mono ?_; rintro e _ ⟨rfl, rfl⟩)
      go_round
      case rel => exact ⟨j + 1, by omega, by omega, by go_num⟩
      case measure => simp [intOf]; omega
    · have hjE : j = E := by omega
      subst hjE
      by_cases hjs : j < s.size
      · have hp : partB ((s[j]'hjs).toNat : Int) = false := by rw [← byteAt_eq s j hjs]; exact HE.out.stop hjs
        go_wp2_with (go_at_call 159; refine (isWordByte_any _ _).mono ?_; rintro e _ ⟨rfl, rfl⟩)
        go_ret
        exact ⟨rfl, rfl⟩
      · go_wp2
        go_ret
        exact ⟨rfl, rfl⟩

theorem infoWord : (Tryz.prog.info? 176).map (fun i => (i.zero, i.size, i.bytes)) = some (some (.agg #[.string ⟨#[]⟩, .int .i64 0, .int .i64 0]), 3, 32) := by kernel_rfl

def wordCells (s : ByteArray) (l : List (Nat × Nat)) : List Value := l.flatMap fun x => [.string (s.extract x.1 x.2), .int .i64 x.1, .int .i64 x.2]
theorem wordCells_snoc (s : ByteArray) (l : List (Nat × Nat)) (a b : Nat) : wordCells s (l ++ [(a, b)]) = wordCells s l ++ [.string (s.extract a b), .int .i64 a, .int .i64 b] := by simp [wordCells]

theorem word_one (a : ByteArray) (b c : Int) : ∀ u ∈ [Value.string a, .int .i64 b, .int .i64 c], u.oneCell' = true := by
  intro u hu
  simp at hu
  rcases hu with rfl | rfl | rfl <;> rfl

set_option maxHeartbeats 1000000 in
theorem wordsS_any (s : ByteArray) (w : World) (hs : s.size ≤ 1048576) :
    Calls Tryz.prog 131 #[.string s] w fun e w' => ∃ g cap, e = .returned (.slice (some ⟨g, 0, none⟩) (wordsOn s 0).length cap) ∧
      w'.ownsRow w.heap.size 176 3 (.slice (some ⟨g, 0, none⟩) (wordsOn s 0).length cap) (wordsOn s 0).length (wordCells s (wordsOn s 0)) ∧ Below w.heap.size w w' := by
  obtain ⟨i0, hi, hz0, hz1, hz2⟩ := info_parts infoWord
  go_enter Tryz.func131, Tryz.ntmps131
  go_wp2
  go_loopw [3, 4] (fun v i wr => ∃ (k : Nat) (acc : List (Nat × Nat)), k ≤ s.size ∧ acc.length ≤ k ∧ i = .int .i64 k ∧ acc ++ wordsOn s k = wordsOn s 0 ∧ wr.ownsRow w.heap.size 176 3 v acc.length (wordCells s acc) ∧ v ≠ .slice none 0 0 ∧ Below w.heap.size w wr) (fun _ i _ => s.size - (intOf i).toNat)
  case atStart => exact ⟨0, [], Nat.zero_le _, Nat.le_refl _, rfl, rfl, World.ownsRow_lit w #[] 0 (Nat.le_refl _) (by decide) rfl, nofun, (Below.refl _ w).alloc (Nat.le_refl _) _⟩
  case round =>
    obtain ⟨k, acc, hk, hacc, rfl, heq, hown, hnn, hbel⟩ := hrel
    have HQ : Hid (acc ++ wordsOn s k = wordsOn s 0) := heq
    clear heq
    by_cases hlt : k < s.size
    · have r := wordEnd_end s k hk
      have hE := r.size
      have hE2 := r.le
      have HE : Hid (IsEnd s k (wordEnd s k)) := r
      clear r
      have HN : Hid (wordEnd s k = k → wordsOn s k = wordsOn s (k + 1)) := wordsOn_none s k hlt
      have HW : Hid (¬ wordEnd s k = k → wordsOn s k = (k, wordEnd s k) :: wordsOn s (wordEnd s k)) := wordsOn_word s k hlt
      generalize wordEnd s k = E at *
      go_wp2
      go_loop [5] (fun t => ∃ j : Nat, k ≤ j ∧ j ≤ E ∧ t = .int .i64 j) (fun t => E - (intOf t).toNat)
      case atStart => exact ⟨k, Nat.le_refl _, hE2, rfl⟩
      case round =>
        obtain ⟨j, hj1, hj2, rfl⟩ := hrel
        by_cases hjlt : j < E
        · have hjs : j < s.size := by omega
          have hbd := byteAt_bd s j
          rw [byteAt_eq s j hjs] at hbd
          have hp : partB ((s[j]'hjs).toNat : Int) = true := by rw [← byteAt_eq s j hjs]; exact HE.out.all j hj1 hjlt
          go_wp2_with (go_at_call 143; refine (l1Part_any _ _ hbd.1 hbd.2).mono ?_; rintro e _ ⟨rfl, rfl⟩)
          go_round
          case rel => exact ⟨j + 1, by omega, by omega, by go_num⟩
          case measure => simp [intOf]; omega
        · have hjE : j = E := by omega
          subst hjE
          clear hjlt
          by_cases hjk : j = k
          · subst hjk
            have hb0 : ((j : Int) == (j : Int)) = true := by simp
            have hw := HN.out rfl
            have HW2 : Hid (acc ++ wordsOn s (j + 1) = wordsOn s 0) := by unfold Hid; rw [← hw]; exact HQ.out
            clear hw
            have hbd := byteAt_bd s j
            rw [byteAt_eq s j hlt] at hbd
            have hp : partB ((s[j]'hlt).toNat : Int) = false := by rw [← byteAt_eq s j hlt]; exact HE.out.stop hlt
            go_wp2_with (go_at_call 143; refine (l1Part_any _ _ hbd.1 hbd.2).mono ?_; rintro e _ ⟨rfl, rfl⟩)
            go_roundw
            case rel => exact ⟨j + 1, acc, by omega, by omega, by go_num, HW2.out, hown, hnn, hbel⟩
            case measure => simp [intOf]; omega
          · have hb0 : ((j : Int) == (k : Int)) = false := by simp; omega
            have HW2 : Hid ((acc ++ [(k, j)]) ++ wordsOn s j = wordsOn s 0) := by unfold Hid; rw [← HQ.out, HW.out hjk]; simp
            by_cases hjs : j < s.size
            · have hbd := byteAt_bd s j
              rw [byteAt_eq s j hjs] at hbd
              have hp : partB ((s[j]'hjs).toNat : Int) = false := by rw [← byteAt_eq s j hjs]; exact HE.out.stop hjs
              go_wp2_with (first | (go_at_call 143; refine (l1Part_any _ _ hbd.1 hbd.2).mono ?_; rintro e _ ⟨rfl, rfl⟩) | (at_builtin; refine wpList_append_own _ rfl _ _ 173 rfl w.heap.size 176 i0 (.agg #[.string ⟨#[]⟩, .int .i64 0, .int .i64 0]) 3 32 Tryz.underlying173 hi hz0 hz1 hz2 rfl (by decide) _ _ _ rfl (hown.alloc _) ⟨wr.heap.size, 0, none⟩ 1 1 [.string (s.extract k j), .int .i64 k, .int .i64 j] rfl rfl (cells_new _ _ _) (word_one _ _ _) (by unfold maxLen; omega) (by omega) (by have := hbel.size; simp; omega) ?_))
              intro v' w1 hown' hgrow hnil
              have hnn' : v' ≠ .slice none 0 0 := hnil
              clear hnil
              have hbel1 := hbel.size
              have hb2 : Below w.heap.size w w1 := (hbel.alloc hbel1 _).grown hgrow (by simp; omega) (fun x hx => (hown.lt x hx).1)
              rw [← wordCells_snoc s acc k j] at hown'
              have hl : (acc ++ [(k, j)]).length = acc.length + 1 := by simp
              rw [← hl] at hown'
              clear hgrow hown hl
              go_wp2
              go_roundw
              case rel => exact ⟨j, acc ++ [(k, j)], by omega, by simp; omega, rfl, HW2.out, hown', hnn', hb2⟩
              case measure => simp [intOf]; omega
            · go_wp2_with (at_builtin; refine wpList_append_own _ rfl _ _ 173 rfl w.heap.size 176 i0 (.agg #[.string ⟨#[]⟩, .int .i64 0, .int .i64 0]) 3 32 Tryz.underlying173 hi hz0 hz1 hz2 rfl (by decide) _ _ _ rfl (hown.alloc _) ⟨wr.heap.size, 0, none⟩ 1 1 [.string (s.extract k j), .int .i64 k, .int .i64 j] rfl rfl (cells_new _ _ _) (word_one _ _ _) (by unfold maxLen; omega) (by omega) (by have := hbel.size; simp; omega) ?_)
              intro v' w1 hown' hgrow hnil
              have hnn' : v' ≠ .slice none 0 0 := hnil
              clear hnil
              have hbel1 := hbel.size
              have hb2 : Below w.heap.size w w1 := (hbel.alloc hbel1 _).grown hgrow (by simp; omega) (fun x hx => (hown.lt x hx).1)
              rw [← wordCells_snoc s acc k j] at hown'
              have hl : (acc ++ [(k, j)]).length = acc.length + 1 := by simp
              rw [← hl] at hown'
              clear hgrow hown hl
              go_wp2
              go_roundw
              case rel => exact ⟨j, acc ++ [(k, j)], by omega, by simp; omega, rfl, HW2.out, hown', hnn', hb2⟩
              case measure => simp [intOf]; omega
    · have hk' : k = s.size := by omega
      subst hk'
      have he : acc = wordsOn s 0 := by rw [← HQ.out, wordsOn_past s _ (Nat.lt_irrefl _), List.append_nil]
      subst he
      rcases hown.2 with ⟨h0, _⟩ | ⟨g, cap, cur, rfl, hg⟩
      · exact absurd h0 hnn
      · go_wp2
        go_ret
        exact ⟨g, cap, rfl, hown, hbel⟩
end Go.Proofs.YtbifagdcnpnpjaaGreat

/- strings.Clone hands back the same bytes; nothing that was there turns. -/
namespace Go.Proofs.YtbifagdcnpnpjaaGreat
open Go.RowKit
theorem infoByte : (Tryz.prog.info? 5).map (fun i => (i.zero, i.size, i.bytes)) = some (some (.int .u8 0), 1, 1) := by kernel_rfl

set_option maxHeartbeats 1000000 in
set_option maxRecDepth 100000 in
theorem cloneLite_any (s : ByteArray) (w : World) (hlim : s.size ≤ 1099511627776) :
    Calls Tryz.prog 124 #[.string s] w fun e w' => e = .returned (.string s) ∧ Below w.heap.size w w' := by
  by_cases h0 : s.size = 0
  · have hs : s = ⟨#[]⟩ := by
      apply ByteArray.ext
      exact Array.eq_empty_of_size_eq_zero h0
    subst hs
    go_enter Tryz.func124, Tryz.ntmps124
    go_wp2
    go_ret
    exact ⟨rfl, Below.refl _ _⟩
  · obtain ⟨i0, hi, hz0, hz1, hz2⟩ := info_parts infoByte
    have hinfo : (Tryz.prog.info? 5).map (·.size) = some 1 := by rw [hi]; simp [hz1]
    have hco : Tryz.prog.cellsOf 5 = 1 := by simp [Program.cellsOf, hi, hz1]
    obtain ⟨M, hM⟩ : ∃ M, M = madeCells (Value.int .u8 0).cells (((s.size : Nat) : Int).toNat * i0.size) := ⟨_, rfl⟩
    have hMs : M.size = s.size := by rw [hM, size_madeCells, hz1]; simp
    have hmk : ∀ W : World, (Instr.makeSlice 150 (.int .i64 (s.size : Int)) (.int .i64 (s.size : Int))).run Tryz.prog W = .ok (.slice (some ⟨W.heap.size, 0, none⟩) s.size s.size) (W.alloc (.cells M 5)) := fun W => by
      have h := run_make (P := Tryz.prog) W 150 5 i0 (.int .u8 0) Tryz.underlying150 hi hz0 .i64 .i64 (s.size : Int) (s.size : Int) (by omega) (by omega) (by rw [hz2]; omega) (by omega)
      rw [← hM] at h
      simpa using h
    clear hM
    have hcp := Lib.run_copy_row_string (P := Tryz.prog) (w.alloc (.cells M 5)) 150 9 3 5 w.heap.size 0 s.size s.size s M 5 Tryz.underlying150 hinfo (heap_alloc_new w _) (Nat.le_refl _) (by omega)
    obtain ⟨Y, hY⟩ : ∃ Y, Y = (M.toList.take 0 ++ Lib.byteCells s.data.toList ++ M.toList.drop (0 + s.size)).toArray := ⟨_, rfl⟩
    rw [← hY] at hcp
    have hYl : Y.toList = Lib.byteCells s.data.toList := by
      rw [hY, List.toList_toArray, List.take_zero, List.nil_append, List.drop_of_length_le (by rw [Array.length_toList]; omega), List.append_nil]
    have hYs : Y.size = s.size := by rw [← Array.length_toList, hYl, Lib.byteCells_length, ← Lib.size_eq]
    have hgY : ((w.alloc (.cells M 5)).setRow w.heap.size Y).heap[w.heap.size]? = some (.cells Y 5 (0, 0)) := setRow_heap _ _ M _ 5 (0, 0) (heap_alloc_new w _)
    have hne : s.data.toList ≠ [] := fun e => h0 (by rw [Lib.size_eq, e]; rfl)
    have hUS := Lib.run_unsafeString_row (P := Tryz.prog) ((w.alloc (.cells M 5)).setRow w.heap.size Y) 189 3 9 5 Tryz.underlying189 hco w.heap.size Y.size (by unfold World.shape?; rw [hgY]) s.data.toList hne (by rw [← Lib.size_eq]; omega) (by rw [← Lib.size_eq]; omega)
      (fun j x hx => Lib.cells_of_row hgY Y.size j _ (by rw [List.take_of_length_le (by rw [Array.length_toList]; exact Nat.le_refl _), hYl]; simp [Lib.byteCells, hx]))
    rw [← Lib.size_eq] at hUS
    clear hY
    go_enter Tryz.func124, Tryz.ntmps124
    go_wp2
    go_ret
    have hb1 : Below w.heap.size w (w.alloc (.cells M 5)) := (Below.refl _ w).alloc (Nat.le_refl _) _
    have hb2 : Below w.heap.size (w.alloc (.cells M 5)) ((w.alloc (.cells M 5)).setRow w.heap.size Y) := ⟨rfl, rfl, rfl, by simp, fun k hk => setRow_other _ _ _ _ (by omega)⟩
    exact ⟨rfl, Lib.below_freeze (hb1.trans hb2) (p := ⟨w.heap.size, 0, none⟩) (Nat.le_refl _) _⟩

theorem clone_any (s : ByteArray) (w : World) (hlim : s.size ≤ 1099511627776) :
    Calls Tryz.prog 99 #[.string s] w fun e w' => e = .returned (.string s) ∧ Below w.heap.size w w' := by
  go_enter Tryz.func99, Tryz.ntmps99
  go_wp2_with fail
  refine (cloneLite_any s _ hlim).mono ?_
  rintro e w1 ⟨rfl, hb1⟩
  go_wp2
  go_ret
  exact ⟨rfl, hb1⟩
end Go.Proofs.YtbifagdcnpnpjaaGreat

/- impl.eachWord as an iterator over all words; slices.Collect over it; impl.Words. -/
namespace Go.Proofs.YtbifagdcnpnpjaaGreat
open Go.RowKit Go.Shelf
attribute [local go_sem] Oper.semAt_some

def wordVal (s : ByteArray) (x : Nat × Nat) : Value := .agg #[.string (s.extract x.1 x.2), .int .i64 x.1, .int .i64 x.2]
set_option maxRecDepth 100000 in
set_option maxHeartbeats 1000000 in
theorem each1_in (n : Nat) (hn : 1 ≤ n) (l Bn n₀ : Nat) (s : ByteArray) (hs : s.size ≤ 1048576) (hBn : Bn < n₀) (J Jx : List (Nat × Nat) → World → Prop)
    (W : World) (hn0 : n₀ ≤ W.heap.size) (hJ : ∀ pre A B, J pre A → Below A.heap.size A B → J pre B)
    (hY : ∀ pre x W, J pre W → pre.length < (wordsOn s 0).length → YieldAt Fence.wide (n - 1) Tryz.prog l #[wordVal s x] W fun e W' =>
      (e = .returned (.bool true) ∧ J (pre ++ [x]) W' ∧ Below n₀ W W') ∨ (e = .returned (.bool false) ∧ Jx (pre ++ [x]) W'))
    (hc : W.cell? ⟨Bn, 0, none⟩ = some (.string s)) (h0 : J [] W) :
    CallsIn Fence.wide n Tryz.prog 150 #[.func (.yield l) #[] #[], .pointer (some ⟨Bn, 0, none⟩)] W fun e W' => (∃ v, e = .returned v) ∧
      ((∃ ys, ys = wordsOn s 0 ∧ J ys W') ∨ (∃ pre, pre <+: wordsOn s 0 ∧ Jx pre W')) := by
  refine callsIn_of_wp Tryz.func150 rfl trivial ?_ rfl
  simp only [Tryz.ntmps150, List.size_toArray, List.length_cons, List.length_nil, Nat.reduceAdd, Nat.reduceSub, Array.replicate_succ, Array.replicate_zero, List.push_toArray, List.append_toArray, List.nil_append, List.cons_append]
  gi_wp2
  gi_loopw [3] (fun t wr => ∃ (k : Nat) (pre : List (Nat × Nat)), t = .int .i64 k ∧ k ≤ s.size + 1 ∧ pre ++ wordsOn s k = wordsOn s 0 ∧ J pre wr ∧ Below n₀ W wr) (fun t _ => s.size + 1 - (intOf t).toNat)
  case atStart => exact ⟨0, [], rfl, Nat.zero_le _, rfl, h0, Below.refl _ _⟩
  case round =>
    obtain ⟨k, pre, rfl, hk, hpre, hJr, hbr⟩ := hrel
    have hcr : wr.cell? ⟨Bn, 0, none⟩ = some (.string s) := by rw [hbr.cell (p := ⟨Bn, 0, none⟩) hBn]; exact hc
    have HP : Hid (pre ++ wordsOn s k = wordsOn s 0) := hpre
    clear hpre
    by_cases hlt : k < s.size
    · have hE := (wordEnd_end s k (by omega)).size
      have hE2 := (wordEnd_end s k (by omega)).le
      have HN : Hid (wordEnd s k = k → wordsOn s k = wordsOn s (k + 1)) := wordsOn_none s k hlt
      have HW : Hid (¬ wordEnd s k = k → wordsOn s k = (k, wordEnd s k) :: wordsOn s (wordEnd s k + 1)) := fun h => by
        rw [wordsOn_word s k hlt h, wordsOn_skip s _ hE (wordEnd_again s k (by omega))]
      by_cases hEk : wordEnd s k = k
      · have hb0 : ((wordEnd s k : Int) == (k : Int)) = true := by simp; omega
        have hw := HN.out hEk
        have HP2 : Hid (pre ++ wordsOn s (k + 1) = wordsOn s 0) := by unfold Hid; rw [← hw]; exact HP.out
        clear hw hEk
        gi_wp2_with (refine ⟨trivial, ?_⟩; gi_at_call 151; refine (callsIn_wide.2 (wordEnd_any s k _ (by omega) (by omega))).mono ?_; rintro e _ ⟨rfl, rfl⟩)
        go_roundw
        case rel => exact ⟨k + 1, pre, by go_num, by omega, HP2.out, hJr, hbr⟩
        case measure => simp [intOf]; omega
      · have hb0 : ((wordEnd s k : Int) == (k : Int)) = false := by simp; omega
        have HP2 : Hid ((pre ++ [(k, wordEnd s k)]) ++ wordsOn s (wordEnd s k + 1) = wordsOn s 0) := by unfold Hid; rw [← HP.out, HW.out hEk]; simp
        have hlen : pre.length < (wordsOn s 0).length := by rw [← HP2.out]; simp
        have hpf : (pre ++ [(k, wordEnd s k)]) <+: wordsOn s 0 := ⟨_, HP2.out⟩
        have HPF : Hid ((pre ++ [(k, wordEnd s k)]) <+: wordsOn s 0) := hpf
        clear hEk hpf
        gi_wp2_with (first | (refine ⟨trivial, ?_⟩; gi_at_call 151; refine (callsIn_wide.2 (wordEnd_any s k _ (by omega) (by omega))).mono ?_; rintro e _ ⟨rfl, rfl⟩) | (refine ⟨trivial, ?_⟩; gi_at_call 99; refine (callsIn_wide.2 (clone_any _ _ (by simp; omega))).mono ?_; rintro e W2 ⟨rfl, hb2⟩; have hJ2 := hJ pre wr W2 hJr hb2; obtain ⟨fn, tmps, assign, body, hy, hR⟩ := hY pre (k, wordEnd s k) W2 hJ2 hlen; simp only [wordVal] at hy))
        refine hR.mono ?_
        rintro e W3 (⟨rfl, hJ3, hk3⟩ | ⟨rfl, hJx3⟩)
        · have hb4 : Below n₀ W W3 := (hbr.trans (hb2.mono (by have := hbr.size; omega))).trans hk3
          clear hR hy hb2 hk3 hJ2
          gi_wp2
          go_roundw
          case rel => exact ⟨wordEnd s k + 1, pre ++ [(k, wordEnd s k)], by go_num, by omega, HP2.out, hJ3, hb4⟩
          case measure => simp [intOf]; omega
        · clear hR hy
          gi_wp2
          refine bodyPost_ret (results_none rfl _ _ _) rfl ?_
          exact ⟨⟨_, rfl⟩, .inr ⟨_, HPF.out, hJx3⟩⟩
    · have hk2 : wordsOn s k = [] := wordsOn_past s k hlt
      have he : pre = wordsOn s 0 := by rw [← HP.out, hk2, List.append_nil]
      clear hk2
      gi_wp2
      go_end0
      exact ⟨⟨_, rfl⟩, .inl ⟨pre, he, hJr⟩⟩

theorem each_stops (n : Nat) (hn : 1 ≤ n) (Bn n₀ : Nat) (s : ByteArray) (hs : s.size ≤ 1048576) (w : World) (hBn : Bn < n₀) (hn₀ : n₀ ≤ w.heap.size) (hc : w.cell? ⟨Bn, 0, none⟩ = some (.string s)) :
    SeqStopsK Fence.wide n Tryz.prog 150 #[.pointer (some ⟨Bn, 0, none⟩)] (fun x : Nat × Nat => #[wordVal s x]) (Below n₀) (fun ys => ys = wordsOn s 0) (fun pre => pre <+: wordsOn s 0) (wordsOn s 0).length w :=
  fun l J Jx W hW hJ _ hY h0 => each1_in n hn l Bn n₀ s hs hBn J Jx W (by have := hW.size; omega) (fun pre A B h hb => hJ pre A B none h (grown_none hb) (fun r e => by cases e)) hY ((hW.cell (p := ⟨Bn, 0, none⟩) (by show Bn < _; omega)).trans hc) h0

/-- The block of a word. -/
def Word3 (W : World) (B : Nat) (s : ByteArray) (x : Nat × Nat) : Prop := W.heap[B]? = some (.cells #[.string (s.extract x.1 x.2), .int .i64 x.1, .int .i64 x.2] 176 (0, 0))
theorem word3_own (B : Nat) (s : ByteArray) : Own (fun x W => Word3 W B s x) := fun x X Y row hs hg hrow =>
  (hg.block B (Array.getElem?_eq_some_iff.1 hs).1 (fun e' => by obtain ⟨o, ho, hc⟩ := hrow B e'.symm; rw [show X.heap[B]? = _ from hs] at ho; cases ho; cases hc)).trans hs
theorem Word3.c0 {W : World} {B : Nat} {s : ByteArray} {x : Nat × Nat} (h : Word3 W B s x) : W.cell? ⟨B, 0, none⟩ = some (.string (s.extract x.1 x.2)) := by simp [World.cell?, show W.heap[B]? = _ from h]
theorem Word3.c1 {W : World} {B : Nat} {s : ByteArray} {x : Nat × Nat} (h : Word3 W B s x) : W.cell? ⟨B, 1, none⟩ = some (.int .i64 x.1) := by simp [World.cell?, show W.heap[B]? = _ from h]
theorem Word3.c2 {W : World} {B : Nat} {s : ByteArray} {x : Nat × Nat} (h : Word3 W B s x) : W.cell? ⟨B, 2, none⟩ = some (.int .i64 x.2) := by simp [World.cell?, show W.heap[B]? = _ from h]

theorem eachWord_any (s : ByteArray) (w : World) :
    Calls Tryz.prog 138 #[.string s] w fun e w' => e = .returned (.func (.func 150) #[] #[.pointer (some ⟨w.heap.size, 0, none⟩)]) ∧ w' = w.alloc (.cells #[.string s] 9) := by
  go_enter Tryz.func138, Tryz.ntmps138
  go_wp2
  go_ret
  exact ⟨rfl, rfl⟩

end Go.Proofs.YtbifagdcnpnpjaaGreat

/- A loop over an iterator whose body never leaves: what holds between two rounds holds behind all of them. The iterator's own word is asked at just the invariant that the loop has. -/
namespace Go.Proofs.YtbifagdcnpnpjaaGreat
open Go.RowKit
variable {P : Program}

theorem yield_inRound {m : Nat} (m' l2 : Nat) {l : Nat} {args : Array Value} {W : World} {R : Ending → World → Prop} (h : YieldAt Fence.wide m P l args W R) : YieldAt (Fence.wide.inRound l2) m' P l args W R := by
  obtain ⟨fn, tmps, assign, body, hy, hR⟩ := h
  exact ⟨fn, tmps, assign, body, hy, hR.1, fun c cs _ => hR.2 c cs (room_wide _)⟩

/-- What the book-keeping of a loop that began at B adds to an invariant. -/
def Kept {α : Type} (B : Nat) (r : Loop) (I : List α → World → Prop) (pre : List α) (W : World) : Prop :=
  I pre W ∧ W.heap[B + 1]? = some (.loop r) ∧ W.heap[B]? = some (.deferred (some []))

theorem rangeAll {α : Type} {n : Nat} (m : Nat) {g : Operand} {ps : Array Tmp} {assign body : Code} {Q : Exit → Act → World → Prop} {a : Act} {w : World} {gf : Nat} {lb : Array Value}
    (hg : a.eval g = .func (.func gf) #[] lb) (eg : ∀ args w, (callFunc gf args).run P w = .ok (.enter gf args) w)
    {encs : α → Array Value} {Kp : World → World → Prop} (xs : List α) (I : List α → World → Prop) (hI : OwnFrom w.heap.size I)
    (hKt : ∀ {A B C : World}, Kp A B → Kp B C → Kp A C) (hKb : ∀ (W : World) (o o' : Obj), W.heap[w.heap.size + 1]? = some o → o.isCells = false → Kp W (W.putObj (w.heap.size + 1) o')) (hps : ∀ x, (encs x).size = ps.size)
    (hseq : ∀ (r : Loop) (W : World), Below w.heap.size w W → W.heap.size = w.heap.size + 2 →
      (∀ pre x W1, Kept w.heap.size r I pre W1 → m ≤ W1.heap.size → pre.length < xs.length → YieldAt Fence.wide (n - 1 - 1) P (w.heap.size + 1) (encs x) W1 fun e W' => e = .returned (.bool true) ∧ Kept w.heap.size r I (pre ++ [x]) W' ∧ Kp W1 W') →
      Kept w.heap.size r I [] W → CallsIn Fence.wide (n - 1) P gf (#[.func (.yield (w.heap.size + 1)) #[] #[]] ++ lb) W fun e W' => (∃ v, e = .returned v) ∧ Kept w.heap.size r I xs W')
    (h0 : I [] w) (Ax : α → Act → World → Prop) (hAx : ∀ x a', OwnFrom w.heap.size (fun (_ : Unit) W => Ax x a' W))
    (hassign : ∀ (l : Nat) (pre : List α) (x : α) (W : World) (K : Act → World → Prop), I pre W → m ≤ W.heap.size → (∀ a' W', KeepsFrom w.heap.size W W' → Kp W W' → I pre W' → Ax x a' W' → K a' W') →
      assign.wpIn (Fence.wide.inRound l) (n - 1 - 1) P (Exit.then K (fun _ _ _ => False)) { tmps := (ps.zip (encs x)).foldl (fun t (p, v) => t.setIfInBounds p v) a.tmps, defers := [] } W)
    (hbody : ∀ (l : Nat) (pre : List α) (x : α) (a' : Act) (W : World), w.heap.size ≤ l → I pre W → Ax x a' W → m ≤ W.heap.size → pre.length < xs.length → body.wpIn (Fence.wide.inRound l) (n - 1 - 1) P (ownPostG w.heap.size Kp I (fun _ _ _ => False) (pre ++ [x]) W) a' W)
    (hdone : ∀ (D : Nat) (W : World), w.heap.size ≤ D → I xs W → W.heap[D]? = some (.deferred (some [])) → Q .normal { a with defers := { target := .collected D, args := #[] } :: a.defers } W) :
    (Code.rangeFunc g ps assign body).wpIn Fence.wide n P Q a w := by
  refine wpIn_rangeFunc ?_
  intro fn _
  obtain ⟨rec, hrec⟩ : ∃ rec : Loop, rec = { state := .ready, pending := none, fn, tmps := a.tmps, params := ps, assign, body, defers := w.heap.size } := ⟨_, rfl⟩
  obtain ⟨W1, hW1⟩ : ∃ W1, (w.alloc (.deferred (some []))).alloc (.loop rec) = W1 := ⟨_, rfl⟩
  have hL1 : W1.heap[w.heap.size + 1]? = some (.loop rec) := by
    rw [← hW1]
    have := World.alloc_heap_new (w.alloc (.deferred (some []))) (.loop rec)
    rwa [World.size_alloc] at this
  have hK1 : W1.heap[w.heap.size]? = some (.deferred (some [])) := by
    rw [← hW1]
    exact (Below.heap_alloc _ _ _ (by simp)).trans (World.alloc_heap_new w _)
  have hI1 : I [] W1 := by rw [← hW1]; exact hI.alloc _ (hI.alloc _ h0)
  have hb1 : Below w.heap.size w W1 := by rw [← hW1]; exact ((Below.refl _ w).alloc (Nat.le_refl _) _).alloc (by simp) _
  have hs1 : W1.heap.size = w.heap.size + 2 := by rw [← hW1]; simp
  refine ⟨w.heap.size + 1, [{ target := .collected w.heap.size, args := #[] }], W1, { target := .fn (.func gf) lb, args := #[.func (.yield (w.heap.size + 1)) #[] #[]] }, W1, gf, #[.func (.yield (w.heap.size + 1)) #[] #[]] ++ lb, W1, ?_, ?_, ?_, ?_, ?_, ?_⟩
  · rw [← hW1, hrec]
    exact run_enterLoop_outer _ _ _ _ _
  · simp only [resolve, hg]
    simp [go_sem]
  · intro f' hf'
    exact trivial
  · simp [invoke, go_sem, eg]
  · intro h
    cases h
  · refine (hseq rec W1 hb1 hs1 ?_ ⟨hI1, hL1, hK1⟩).mono ?_
    · rintro pre x W ⟨hi, hl, hk⟩ hm hlen
      have hy := run_yield (P := P) (args := encs x) hl (by rw [hrec]; exact hps x)
      rw [hrec] at hy
      refine ⟨fn, _, assign, body, hy, roundIn_of_wpIn trivial (hassign _ pre x W _ hi hm ?_)⟩
      clear hy
      intro a' Wa hkf hkp hia hax
      have hl2 := hkf.same _ _ (by omega) hl rfl
      have hk2 := hkf.same _ _ (Nat.le_refl _) hk rfl
      have hlt : w.heap.size + 1 < Wa.heap.size := (Array.getElem?_eq_some_iff.1 hl2).1
      obtain ⟨busy, hbusy⟩ : ∃ busy : Loop, busy = { rec with state := .busy } := ⟨_, rfl⟩
      refine ⟨_, run_beginRound hl2 (by rw [hrec]), ?_⟩
      rw [← hbusy]
      have hl3 : (Wa.putObj (w.heap.size + 1) (.loop busy)).heap[w.heap.size + 1]? = some (.loop busy) := World.putObj_heap_same hlt
      have hk3 : (Wa.putObj (w.heap.size + 1) (.loop busy)).heap[w.heap.size]? = some (.deferred (some [])) := (World.putObj_heap_other (by omega)).trans hk2
      have hp3 : Kp Wa (Wa.putObj (w.heap.size + 1) (.loop busy)) := hKb _ _ _ hl2 rfl
      refine wpIn_mono (hbody _ pre x a' _ (by omega) (hI.putObj _ hia (by omega) hl2 rfl) ((hAx x a').putObj (s := ()) _ hax (by omega) hl2 rfl) (by have := hkf.size; rw [World.putObj_size]; omega) hlen) ?_
      rintro e a3 W3 hp
      cases e with
      | normal =>
        obtain ⟨hk4, hkp4, hi4⟩ := hp
        have hl5 := hk4.same _ _ (by omega) hl3 rfl
        have hk5 := hk4.same _ _ (Nat.le_refl _) hk3 rfl
        have hr := run_endRound (P := P) none hl5
        have hback : ({ busy with state := if (none : Option Code).isNone then .ready else .done, pending := none } : Loop) = rec := by rw [hbusy, hrec]; rfl
        rw [hback] at hr
        have hlt5 : w.heap.size + 1 < W3.heap.size := (Array.getElem?_eq_some_iff.1 hl5).1
        exact ⟨_, _, hr, rfl, ⟨hI.putObj _ hi4 (by omega) hl5 rfl, World.putObj_heap_same hlt5, (World.putObj_heap_other (by omega)).trans hk5⟩, hKt hkp (hKt (hKt hp3 hkp4) (hKb _ _ _ hl5 rfl))⟩
      | ret => exact hp.2.elim
      | exit id => exact hp.2.elim
      | goto t => exact hp.2.elim
      | panic ch => exact hp.elim
      | outgrown => exact hp.elim
    · rintro e W2 ⟨⟨v, rfl⟩, hi, hl, hk⟩
      exact ⟨none, _, by have := run_endLoop (P := P) hl (by rw [hrec]; simp); rw [hrec] at this; exact this, hdone _ _ (Nat.le_refl _) (hI.putObj _ hi (by omega) hl rfl) ((World.putObj_heap_other (by omega)).trans hk)⟩
theorem below_put {n₀ l : Nat} (h : n₀ ≤ l) (X : World) (o : Obj) : Below n₀ X (X.putObj l o) := ⟨rfl, rfl, rfl, by simp, fun k hk => World.putObj_heap_other (by omega)⟩
theorem ownFrom_below' {α : Type} {B : Nat} {J : List α → World → Prop} (h : OwnFrom B J) : ∀ pre X Y, J pre X → Below X.heap.size X Y → J pre Y := fun pre X Y hj hb => h pre X Y none hj (grown_none hb) (fun r e => by cases e)
theorem ownFrom_kept {α : Type} {B B' : Nat} {r : Loop} {I : List α → World → Prop} (h : OwnFrom B I) (hB : B + 2 ≤ B') : OwnFrom B' (Kept B r I) := fun s W W' row hs hg hr =>
  ⟨h s W W' row hs.1 hg (fun r e => ⟨by have := (hr r e).1; omega, (hr r e).2⟩),
   (hg.block _ (Array.getElem?_eq_some_iff.1 hs.2.1).1 (fun e => by have := (hr _ e.symm).1; omega)).trans hs.2.1,
   (hg.block _ (Array.getElem?_eq_some_iff.1 hs.2.2).1 (fun e => by have := (hr _ e.symm).1; omega)).trans hs.2.2⟩
end Go.Proofs.YtbifagdcnpnpjaaGreat

/- Contracts of withoutMany, isFiller, impl.Stem, and of spec.l1Stop, spec.Stem. -/
namespace Go.Proofs.YtbifagdcnpnpjaaGreat
open Go.RowKit

def cut12 (s : ByteArray) : ByteArray := if 12 < s.size then s.extract 0 12 else s
def plurB (s : ByteArray) : Bool := decide (3 < s.size) && (byteAt s (s.size - 1) == 115) && (byteAt s (s.size - 2) != 115)
def withoutA (s : ByteArray) : ByteArray := if plurB s then s.extract 0 (s.size - 1) else s
def fillB (s : ByteArray) : Bool := s.toList == [97] || s.toList == [97, 110] || s.toList == [97, 110, 100] || s.toList == [111, 102] || s.toList == [116, 104, 101] || s.toList == [116, 111]
def fillers : List (List UInt8) := [[97], [97, 110], [97, 110, 100], [111, 102], [116, 104, 101], [116, 111]]
theorem fillB_eq (s : ByteArray) : fillB s = fillers.any (· == s.toList) := by
  rw [Bool.eq_iff_iff]
  simp [fillB, fillers, or_assoc]
  constructor <;> (intro h; rcases h with h | h | h | h | h | h <;> simp [h])
theorem fill_hit (s : ByteArray) (f : List UInt8) (hm : f ∈ fillers) (h : (f == s.toList) = true) : fillB s = true := by
  rw [fillB_eq, List.any_eq_true]
  exact ⟨f, hm, h⟩
theorem fill_step (s : ByteArray) (k : Nat) (f : List UInt8) (hf : fillers[k]? = some f) (h : (fillers.take k).any (· == s.toList) = false) (hn : (f == s.toList) = false) : (fillers.take (k + 1)).any (· == s.toList) = false := by
  rw [List.take_add_one, hf, List.any_append, h]
  simp only [Option.toList_some, List.any_cons, List.any_nil, hn, Bool.or_self]
theorem fill_none (s : ByteArray) (h : (fillers.take 6).any (· == s.toList) = false) : fillB s = false := by
  rw [fillB_eq]
  exact h
theorem foldA_size (s : ByteArray) : (foldA s).size = s.size := by
  show (s.data.toList.map lowU).toArray.size = _
  simp
theorem cut12_size (s : ByteArray) : (cut12 s).size ≤ s.size := by
  unfold cut12
  split
  · simp; omega
  · exact Nat.le_refl _
def stemA (s : ByteArray) : ByteArray := if fillB (withoutA (cut12 (foldA s))) then ⟨#[]⟩ else withoutA (cut12 (foldA s))

set_option maxHeartbeats 400000 in
theorem withoutMany_any (s : ByteArray) (w : World) (hs : s.size ≤ maxLen) :
    Calls Tryz.prog 157 #[.string s] w fun e w' => e = .returned (.string (withoutA s)) ∧ w = w' := by
  unfold maxLen at hs
  by_cases h3 : 3 < (s.size : Int)
  · have p1 : s.size - 1 < s.size := by omega
    have p2 : s.size - 2 < s.size := by omega
    have e1 := byteAt_eq s _ p1
    have e2 := byteAt_eq s _ p2
    have E1 : Hid (byteAt s (s.size - 1) = ((s[s.size - 1]'p1).toNat : Int)) := e1
    have E2 : Hid (byteAt s (s.size - 2) = ((s[s.size - 2]'p2).toNat : Int)) := e2
    clear e1 e2
    have q3 : 3 < s.size := by omega
    cases h1 : (((s[s.size - 1]'p1).toNat : Int) == 115) <;> cases h2 : (((s[s.size - 2]'p2).toNat : Int) != 115)
    all_goals
      go_enter Tryz.func157, Tryz.ntmps157
      go_wp2
      go_ret
      exact ⟨ret_string (by simp [withoutA, plurB, E1.out, E2.out, h1, h2, q3]), rfl⟩
  · have q3 : ¬ 3 < s.size := by omega
    go_enter Tryz.func157, Tryz.ntmps157
    go_wp2
    go_ret
    exact ⟨ret_string (by simp [withoutA, plurB, q3]), rfl⟩

theorem isFiller_any (s : ByteArray) (w : World) :
    Calls Tryz.prog 158 #[.string s] w fun e w' => e = .returned (.bool (fillB s)) ∧ w = w' := by
  go_enter Tryz.func158, Tryz.ntmps158
  go_wp2
  all_goals
    go_ret
    exact ⟨ret_bool (by simp_all [fillB]), rfl⟩

theorem l1Stop_any (s : ByteArray) (w : World) :
    Calls Tryz.prog 145 #[.string s] w fun e w' => e = .returned (.bool (fillB s)) ∧ Below w.heap.size w w' := by
  go_enter Tryz.func145, Tryz.ntmps145
  go_wp2
  go_loop [4] (fun i => ∃ k : Nat, k ≤ 6 ∧ i = .int .i64 k ∧ (fillers.take k).any (· == s.toList) = false) (fun i => 6 - (intOf i).toNat)
  case atStart => exact ⟨0, by omega, rfl, rfl⟩
  case round =>
    obtain ⟨k, hk, rfl, ha⟩ := hrel
    have HA : Hid ((fillers.take k).any (· == s.toList) = false) := ha
    clear ha
    rcases (show k = 0 ∨ k = 1 ∨ k = 2 ∨ k = 3 ∨ k = 4 ∨ k = 5 ∨ k = 6 from by omega) with rfl | rfl | rfl | rfl | rfl | rfl | rfl
    · cases hc : (([97] : List UInt8) == s.toList) with
      | true =>
        go_wp2
        go_ret
        exact ⟨ret_bool (fill_hit s _ (by decide) hc).symm, (Below.refl _ w).alloc (Nat.le_refl _) _⟩
      | false =>
        go_wp2
        go_round
        case rel => exact ⟨1, by omega, by go_num, fill_step s 0 _ rfl HA.out hc⟩
        case measure => simp [intOf]
    · cases hc : (([97, 110] : List UInt8) == s.toList) with
      | true =>
        go_wp2
        go_ret
        exact ⟨ret_bool (fill_hit s _ (by decide) hc).symm, (Below.refl _ w).alloc (Nat.le_refl _) _⟩
      | false =>
        go_wp2
        go_round
        case rel => exact ⟨2, by omega, by go_num, fill_step s 1 _ rfl HA.out hc⟩
        case measure => simp [intOf]
    · cases hc : (([97, 110, 100] : List UInt8) == s.toList) with
      | true =>
        go_wp2
        go_ret
        exact ⟨ret_bool (fill_hit s _ (by decide) hc).symm, (Below.refl _ w).alloc (Nat.le_refl _) _⟩
      | false =>
        go_wp2
        go_round
        case rel => exact ⟨3, by omega, by go_num, fill_step s 2 _ rfl HA.out hc⟩
        case measure => simp [intOf]
    · cases hc : (([111, 102] : List UInt8) == s.toList) with
      | true =>
        go_wp2
        go_ret
        exact ⟨ret_bool (fill_hit s _ (by decide) hc).symm, (Below.refl _ w).alloc (Nat.le_refl _) _⟩
      | false =>
        go_wp2
        go_round
        case rel => exact ⟨4, by omega, by go_num, fill_step s 3 _ rfl HA.out hc⟩
        case measure => simp [intOf]
    · cases hc : (([116, 104, 101] : List UInt8) == s.toList) with
      | true =>
        go_wp2
        go_ret
        exact ⟨ret_bool (fill_hit s _ (by decide) hc).symm, (Below.refl _ w).alloc (Nat.le_refl _) _⟩
      | false =>
        go_wp2
        go_round
        case rel => exact ⟨5, by omega, by go_num, fill_step s 4 _ rfl HA.out hc⟩
        case measure => simp [intOf]
    · cases hc : (([116, 111] : List UInt8) == s.toList) with
      | true =>
        go_wp2
        go_ret
        exact ⟨ret_bool (fill_hit s _ (by decide) hc).symm, (Below.refl _ w).alloc (Nat.le_refl _) _⟩
      | false =>
        go_wp2
        go_round
        case rel => exact ⟨6, by omega, by go_num, fill_step s 5 _ rfl HA.out hc⟩
        case measure => simp [intOf]
    · go_wp2
      go_ret
      exact ⟨ret_bool (fill_none s HA.out).symm, (Below.refl _ w).alloc (Nat.le_refl _) _⟩

set_option maxHeartbeats 400000 in
theorem stemI_any (s : ByteArray) (w : World) (hs : s.size ≤ maxLen) :
    Calls Tryz.prog 149 #[.string s] w fun e w' => e = .returned (.string (stemA s)) ∧ Below w.heap.size w w' := by
  have hsz := foldA_size s
  unfold maxLen at hs
  by_cases h12 : 12 < (s.size : Int)
  · have HX : Hid (cut12 (foldA s) = (foldA s).extract 0 12) := by unfold Hid; rw [cut12, if_pos (by omega)]
    go_enter Tryz.func149, Tryz.ntmps149
    go_wp2_with fail
    refine (foldI_any _ _ (by unfold maxLen; omega)).mono ?_
    rintro e w1 ⟨rfl, hb1⟩
    go_wp2_with fail
    rw [← HX.out]
    refine (withoutMany_any _ _ (by unfold maxLen; have := cut12_size (foldA s); omega)).mono ?_
    rintro e _ ⟨rfl, rfl⟩
    go_wp2_with fail
    cases hf : fillB (withoutA (cut12 (foldA s)))
    all_goals
      refine (isFiller_any _ _).mono ?_
      rintro e _ ⟨rfl, rfl⟩
      rw [hf]
      go_wp2
      go_ret
      exact ⟨ret_string (by simp [stemA, hf]), hb1⟩
  · have HX : Hid (cut12 (foldA s) = foldA s) := by unfold Hid; rw [cut12, if_neg (by omega)]
    go_enter Tryz.func149, Tryz.ntmps149
    go_wp2_with fail
    refine (foldI_any _ _ (by unfold maxLen; omega)).mono ?_
    rintro e w1 ⟨rfl, hb1⟩
    go_wp2_with fail
    refine (withoutMany_any _ _ (by unfold maxLen; omega)).mono ?_
    rintro e _ ⟨rfl, rfl⟩
    go_wp2_with fail
    cases hf : fillB (withoutA (foldA s))
    all_goals
      refine (isFiller_any _ _).mono ?_
      rintro e _ ⟨rfl, rfl⟩
      rw [hf]
      go_wp2
      go_ret
      exact ⟨ret_string (by simp [stemA, HX.out, hf]), hb1⟩

set_option maxHeartbeats 400000 in
theorem stemS_any (s : ByteArray) (w : World) (hs : s.size ≤ 1099511627776) :
    Calls Tryz.prog 132 #[.string s] w fun e w' => e = .returned (.string (stemA s)) ∧ Below w.heap.size w w' := by
  have hsz := foldA_size s
  go_enter Tryz.func132, Tryz.ntmps132
  go_wp2_with fail
  refine (foldS_any _ _ hs).mono ?_
  rintro e w1 ⟨rfl, hb1⟩
  go_upto_if 9 with fail
  go_cut [3] (fun x wx => x = .string (cut12 (foldA s)) ∧ wx = w1)
  case first =>
    by_cases h12 : 12 < (s.size : Int)
    · have HX : Hid (cut12 (foldA s) = (foldA s).extract 0 12) := by unfold Hid; rw [cut12, if_pos (by omega)]
      go_wp2
      go_meet
      case rel => exact ⟨by rw [HX.out], rfl⟩
    · have HX : Hid (cut12 (foldA s) = foldA s) := by unfold Hid; rw [cut12, if_neg (by omega)]
      go_wp2
      go_meet
      case rel => exact ⟨by rw [HX.out], rfl⟩
  case rest =>
    obtain ⟨rfl, rfl⟩ := hcut
    have hXs := cut12_size (foldA s)
    have HS : Hid (stemA s = if fillB (withoutA (cut12 (foldA s))) then ⟨#[]⟩ else withoutA (cut12 (foldA s))) := rfl
    generalize cut12 (foldA s) = X at *
    by_cases h3 : 3 < (X.size : Int)
    · have p1 : X.size - 1 < X.size := by omega
      have p2 : X.size - 2 < X.size := by omega
      have E1 : Hid (byteAt X (X.size - 1) = ((X[X.size - 1]'p1).toNat : Int)) := byteAt_eq X _ p1
      have E2 : Hid (byteAt X (X.size - 2) = ((X[X.size - 2]'p2).toNat : Int)) := byteAt_eq X _ p2
      have q3 : 3 < X.size := by omega
      cases h1 : (((X[X.size - 1]'p1).toNat : Int) == 115) <;> cases h2 : (((X[X.size - 2]'p2).toNat : Int) != 115)
      case true.true =>
        have HW : Hid (withoutA X = X.extract 0 (X.size - 1)) := by unfold Hid; simp [withoutA, plurB, E1.out, E2.out, h1, h2, q3]
        go_wp2_with fail
        refine (l1Stop_any _ _).mono ?_
        rintro e w2 ⟨rfl, hb2⟩
        rw [← HW.out]
        cases hf : fillB (withoutA X)
        all_goals
          go_wp2
          go_ret
          exact ⟨ret_string (by rw [HS.out, hf]; simp [HW.out]), hb1.trans (hb2.mono hb1.size)⟩
      all_goals
        have HW : Hid (withoutA X = X) := by unfold Hid; simp [withoutA, plurB, E1.out, E2.out, h1, h2, q3]
        go_wp2_with fail
        refine (l1Stop_any _ _).mono ?_
        rintro e w2 ⟨rfl, hb2⟩
        cases hf : fillB X
        all_goals
          go_wp2
          go_ret
          exact ⟨ret_string (by rw [HS.out, HW.out, hf]; simp), hb1.trans (hb2.mono hb1.size)⟩
    · have q3 : ¬ 3 < X.size := by omega
      have HW : Hid (withoutA X = X) := by unfold Hid; simp [withoutA, plurB, q3]
      go_wp2_with fail
      refine (l1Stop_any _ _).mono ?_
      rintro e w2 ⟨rfl, hb2⟩
      cases hf : fillB X
      all_goals
        go_wp2
        go_ret
        exact ⟨ret_string (by rw [HS.out, HW.out, hf]; simp), hb1.trans (hb2.mono hb1.size)⟩
end Go.Proofs.YtbifagdcnpnpjaaGreat

/- impl.eachTerm as an iterator over what all words are looked for as; slices.Collect over it; impl.Terms. -/
namespace Go.Proofs.YtbifagdcnpnpjaaGreat
open Go.RowKit Go.Shelf
attribute [local go_sem] Oper.semAt_some

theorem ownFrom_mono {β : Type} {B B' : Nat} {I : β → World → Prop} (h : OwnFrom B I) (hB : B ≤ B') : OwnFrom B' I := fun s W W' row hs hg hr => h s W W' row hs hg (fun r e => ⟨Nat.le_trans hB (hr r e).1, (hr r e).2⟩)
def termVal (s : ByteArray) (x : Nat × Nat) : Value := .string (stemA (s.extract x.1 x.2))

/-- All words, for a body that never leaves. -/
theorem each1_all (n : Nat) (hn : 1 ≤ n) (l Bn n₀ : Nat) (s : ByteArray) (hs : s.size ≤ 1048576) (hBn : Bn < n₀) (J : List (Nat × Nat) → World → Prop)
    (W : World) (hn0 : n₀ ≤ W.heap.size) (hJ : ∀ pre A B, J pre A → Below A.heap.size A B → J pre B)
    (hY : ∀ pre x W, J pre W → pre.length < (wordsOn s 0).length → YieldAt Fence.wide (n - 1) Tryz.prog l #[wordVal s x] W fun e W' => e = .returned (.bool true) ∧ J (pre ++ [x]) W' ∧ Below n₀ W W')
    (hc : W.cell? ⟨Bn, 0, none⟩ = some (.string s)) (h0 : J [] W) :
    CallsIn Fence.wide n Tryz.prog 150 #[.func (.yield l) #[] #[], .pointer (some ⟨Bn, 0, none⟩)] W fun e W' => (∃ v, e = .returned v) ∧ J (wordsOn s 0) W' := by
  refine (each1_in n hn l Bn n₀ s hs hBn J (fun _ _ => False) W hn0 hJ (fun pre x W1 h hl => ?_) hc h0).mono ?_
  · obtain ⟨fn, tmps, assign, body, hy, hR⟩ := hY pre x W1 h hl
    exact ⟨fn, tmps, assign, body, hy, hR.mono fun e W' h => .inl h⟩
  · rintro e W' ⟨hv, ⟨ys, rfl, hj⟩ | ⟨_, _, h⟩⟩
    · exact ⟨hv, hj⟩
    · exact h.elim

/-- What a round leaves alone: all below n₀, whatever is no cells from B on, and block B. -/
structure Kq (n₀ B : Nat) (X Y : World) : Prop where
  below : Below n₀ X Y
  others : KeepsFrom B X Y
  box : Y.heap[B]? = X.heap[B]?
theorem Kq.trans {n₀ B : Nat} {X Y Z : World} (h : Kq n₀ B X Y) (k : Kq n₀ B Y Z) : Kq n₀ B X Z := ⟨h.below.trans k.below, h.others.trans k.others, k.box.trans h.box⟩
theorem keepsFrom_below {B : Nat} {X Y : World} (h : Below X.heap.size X Y) : KeepsFrom B X Y := ⟨h.size, fun k _ _ hk _ => (h.block k (Array.getElem?_eq_some_iff.1 hk).1).trans hk⟩
theorem keepsFrom_mono {B B' : Nat} {X Y : World} (h : KeepsFrom B X Y) (hB : B ≤ B') : KeepsFrom B' X Y := ⟨h.size, fun k _ hk => h.same k _ (by omega)⟩
theorem term_round {α : Type} {n₀ : Nat} {W W0 V V2 V3 : World} {t : TypeId} {y : Value} {J : List α → World → Prop} {pre : List α} (hb1 : Below n₀ W V) (bY1 : Boxed V W.heap.size t y) (hV : W.heap.size < V.heap.size) (hn0 : n₀ ≤ W.heap.size) (hsz : W0.heap.size = W.heap.size + 1)
    (hb2 : Below V.heap.size V V2) (hj3 : J pre V3) (hk3 : Kq n₀ W.heap.size V2 V3) :
    KeepsFrom W0.heap.size V V3 ∧ Below n₀ V V3 ∧ (J pre V3 ∧ Boxed V3 W.heap.size t y) ∧ Below n₀ W V3 := by
  have hb3 : Below n₀ V V3 := (hb2.mono (by omega)).trans hk3.below
  exact ⟨(keepsFrom_below hb2).trans (keepsFrom_mono hk3.others (by omega)), hb3, ⟨hj3, hk3.box.trans ((hb2.block _ hV).trans bY1)⟩, hb1.trans hb3⟩

set_option maxRecDepth 100000 in
set_option maxHeartbeats 2000000 in
theorem term1_all (l Bf Bn n₀ : Nat) (s : ByteArray) (hs : s.size ≤ 1048576) (hBf : Bf < n₀) (hBn : Bn < n₀) (J : List (Nat × Nat) → World → Prop)
    (W : World) (hn0 : n₀ ≤ W.heap.size) (hJ : OwnFrom W.heap.size J)
    (hY : ∀ pre x W1, J pre W1 → W.heap.size + 1 ≤ W1.heap.size → pre.length < (wordsOn s 0).length → YieldAt Fence.wide 2 Tryz.prog l #[termVal s x] W1 fun e W' => e = .returned (.bool true) ∧ J (pre ++ [x]) W' ∧ Kq n₀ W.heap.size W1 W')
    (hcf : W.cell? ⟨Bf, 0, none⟩ = some (.func (.func 150) #[] #[.pointer (some ⟨Bn, 0, none⟩)]))
    (hc : W.cell? ⟨Bn, 0, none⟩ = some (.string s)) (h0 : J [] W) :
    CallsIn Fence.wide 3 Tryz.prog 148 #[.func (.yield l) #[] #[], .pointer (some ⟨Bf, 0, none⟩)] W fun e W' => (∃ v, e = .returned v) ∧ J (wordsOn s 0) W' := by
  refine callsIn_of_wp_marks Tryz.func148 rfl trivial ?_ rfl
  simp only [Tryz.ntmps148, List.size_toArray, List.length_cons, List.length_nil, Nat.reduceAdd, Nat.reduceSub, Array.replicate_succ, Array.replicate_zero, List.push_toArray, List.append_toArray, List.nil_append, List.cons_append]
  have hcf1 : (W.alloc (.cells #[.func (.yield l) #[] #[]] 125)).cell? ⟨Bf, 0, none⟩ = some (.func (.func 150) #[] #[.pointer (some ⟨Bn, 0, none⟩)]) := by rw [World.cell?_alloc_lt _ _ _ (by show Bf < _; omega)]; exact hcf
  gi_wp2
  have bY := Boxed.new W 125 (.func (.yield l) #[] #[])
  have hB0 : Below W.heap.size W (W.alloc (.cells #[.func (.yield l) #[] #[]] 125)) := (Below.refl _ W).alloc (Nat.le_refl _) _
  have hJ0 : J [] (W.alloc (.cells #[.func (.yield l) #[] #[]] 125)) := hJ.alloc _ h0
  have hsz : (W.alloc (.cells #[.func (.yield l) #[] #[]] 125)).heap.size = W.heap.size + 1 := by simp
  obtain ⟨W0, hW0⟩ : ∃ W0, W.alloc (.cells #[.func (.yield l) #[] #[]] 125) = W0 := ⟨_, rfl⟩
  rw [hW0] at bY hB0 hJ0 hsz ⊢
  clear hW0 hcf1
  have hI : OwnFrom W0.heap.size (fun pre V => (J pre V ∧ Boxed V W.heap.size 125 (.func (.yield l) #[] #[])) ∧ Below n₀ W V) :=
    OwnFrom.and (OwnFrom.and (ownFrom_mono hJ (by omega)) (Own.from (boxed_own _ _ _) _)) (ownFrom_below hn0 (by omega))
  refine rangeAll (W0.heap.size) (n := 3) (encs := fun x => #[wordVal s x]) (Kp := Below n₀) rfl (enters_of Tryz.func150 (by kernel_rfl) rfl) (wordsOn s 0) _ hI
    belowK_t (fun V _ o' _ _ => below_put (by omega) V o') (fun _ => rfl)
    (fun r V hb hVs hY2 hk => each1_all 2 (by omega) (W0.heap.size + 1) Bn n₀ s hs hBn _ V (by omega) (ownFrom_below' (ownFrom_kept hI (by omega) : OwnFrom V.heap.size _)) (fun pre x W1 h hl => hY2 pre x W1 h ?hms hl) (by rw [hb.cell (p := ⟨Bn, 0, none⟩) (by show Bn < _; omega), hB0.cell (p := ⟨Bn, 0, none⟩) (by show Bn < _; omega)]; exact hc) hk)
    ⟨⟨hJ0, bY⟩, hB0.mono hn0⟩
    (fun x a' V => ∃ Bx, W.heap.size < Bx ∧ Word3 V Bx s x ∧ a' = { tmps := #[.func (.yield l) #[] #[], .pointer (some ⟨Bf, 0, none⟩), .pointer (some ⟨W.heap.size, 0, none⟩), .pointer (some ⟨Bx, 0, none⟩), .func (.func 150) #[] #[.pointer (some ⟨Bn, 0, none⟩)], wordVal s x, undef, undef, undef, undef, undef, undef], defers := [] })
    (fun x a' _ X Y row hs hg hr => by obtain ⟨Bx, h1, h2, h3⟩ := hs; exact ⟨Bx, h1, word3_own Bx s x X Y row h2 hg (fun r e => (hr r e).2), h3⟩)
    ?assign ?body ?done
  case hms => exact Nat.le_of_lt (Nat.lt_of_succ_lt (Array.getElem?_eq_some_iff.1 h.2.1).1)
  case assign =>
    rintro l2 pre x V K ⟨⟨hj, bY1⟩, hb1⟩ hm hK
    simp only [wordVal]
    gi_wp2
    exact hK _ _ ((KeepsOthers.alloc _ _).from _) ((Below.refl _ V).alloc (by omega) _) ⟨⟨hJ.alloc _ hj, bY1.alloc _⟩, hb1.alloc (by omega) _⟩ ⟨V.heap.size, by omega, heap_alloc_new V _, rfl⟩
  case body =>
    rintro l2 pre x a' V hl ⟨⟨hj, bY1⟩, hb1⟩ ⟨Bx, hBx, bX, rfl⟩ hm hlt
    have cY := bY1.cell
    have x0 := bX.c0
    simp only [wordVal]
    have hmix : Tryz.prog.follows .mixedOrders = true := by kernel_rfl
    have hxs : (s.extract x.1 x.2).size ≤ maxLen := by simp; unfold maxLen; omega
    clear bX
    gi_wp2
    gi_region_with_o (first | (refine ⟨trivial, ?_⟩; gi_at_call 149; refine (CallsIn.inRound l2 (callsIn_wide.2 (stemI_any _ _ hxs))).mono ?_; rintro e V2 ⟨rfl, hb2d⟩; have hb2 : Below V.heap.size V V2 := ⟨hb2d.os, hb2d.tape, hb2d.output, hb2d.size, hb2d.block⟩; clear hb2d; have cY2 : V2.cell? ⟨W.heap.size, 0, none⟩ = some (.func (.yield l) #[] #[]) := (hb2.cell (p := ⟨W.heap.size, 0, none⟩) bY1.lt).trans cY; have hj2 := ownFrom_below' hJ pre V V2 hj hb2; obtain ⟨fn, tmps, assign, body, hy, hR⟩ := yield_inRound 0 l2 (hY pre x V2 hj2 (by have := hb2.size; omega) hlt); simp only [termVal] at hy) | (refine hR.mono ?_; rintro e V3 ⟨rfl, hj3, hk3⟩))
    all_goals gi_wp2
    all_goals exact term_round hb1 bY1 (by omega) hn0 hsz hb2 hj3 hk3
  case done =>
    rintro D V hD ⟨⟨hj, bY1⟩, hb1⟩ hK
    gi_wp2
    refine ⟨by simp, .inl ⟨_, _, rfl, run_takeDeferred hK, ?_⟩⟩
    exact ⟨_, results_none rfl _ _ _, ⟨_, rfl⟩, hJ.putObj _ hj (by omega) hK rfl⟩

theorem infoStr : (Tryz.prog.info? 9).map (fun i => (i.zero, i.size, i.bytes)) = some (some (.string ⟨#[]⟩), 1, 16) := by kernel_rfl
def termCells (s : ByteArray) (l : List (Nat × Nat)) : List Value := l.map fun x => .string (stemA (s.extract x.1 x.2))
theorem termCells_snoc (s : ByteArray) (l : List (Nat × Nat)) (x : Nat × Nat) : termCells s (l ++ [x]) = termCells s l ++ [.string (stemA (s.extract x.1 x.2))] := by simp [termCells]

/-- Behind 'out = append(out, v)' where out's box lies below the rows' base. -/
theorem appended2 {W w1 : World} {base n₀ B M : Nat} {t e : TypeId} {size : Nat} {v v' : Value} {k m : Nat} {xs ys : List Value} {tmp : Obj}
    (hv : Boxed W B t v) (hte : t ≠ e) (hrow : W.ownsRow base e size v k xs) (hB : n₀ ≤ B) (hBM : B < M) (hMb : M < base) (hbW : base ≤ W.heap.size)
    (hown' : w1.ownsRow base e size v' m ys) (hgrow : (W.alloc tmp).grownBy w1 v.ownBlock) :
    Boxed w1 B t v ∧ Boxed (w1.setCell ⟨B, 0, none⟩ v') B t v' ∧ (w1.setCell ⟨B, 0, none⟩ v').ownsRow base e size v' m ys ∧ KeepsOthers W (w1.setCell ⟨B, 0, none⟩ v') ∧ Kq n₀ M W (w1.setCell ⟨B, 0, none⟩ v') := by
  have hv1 : Boxed w1 B t v := (hv.alloc tmp).kept hgrow (hv.not_row hte hrow)
  have hrl : ∀ j, v.ownBlock = some j → base ≤ j := fun j ej => (hrow.lt j ej).1
  have hko : KeepsOthers W (w1.setCell ⟨B, 0, none⟩ v') := by
    refine ((KeepsOthers.alloc W tmp).trans (KeepsOthers.of_grownBy hgrow fun j o ej hj => ?_)).trans (KeepsOthers.setCell _ _ _)
    rcases (hrow.alloc tmp).2 with ⟨rfl, _⟩ | ⟨g, cap, cur, rfl, _, hgb, _⟩
    · simp [Value.ownBlock] at ej
    · obtain rfl : g = j := by simpa [Value.ownBlock] using ej
      rw [hgb] at hj; cases hj; rfl
  refine ⟨hv1, hv1.set v', hown'.kept (grownBy_setCell' w1 B v') (.inr (hv1.not_row hte hown').symm), hko, ?_, hko.from _, ?_⟩
  · exact (((Below.refl n₀ W).alloc (by omega) tmp).grown hgrow (by simp; omega) fun j ej => by have := hrl j ej; omega).setCell (p := ⟨B, 0, none⟩) hB v'
  · rw [Below.heap_setCell _ _ _ _ (by show M ≠ B; omega), hgrow.block M (by simp; omega) (fun e => by have := hrl M e.symm; omega), Below.heap_alloc _ _ _ (by omega)]

theorem str_one (a : ByteArray) : ∀ u ∈ [Value.string a], u.oneCell' = true := by
  intro u hu
  simp at hu
  subst hu
  rfl

set_option maxRecDepth 100000 in
set_option maxHeartbeats 2000000 in
theorem appendTerms_any (s : ByteArray) (hs : s.size ≤ 1048576) (Bf Bn : Nat) (w : World) (hBf : Bf < w.heap.size) (hBn : Bn < w.heap.size)
    (hcf : w.cell? ⟨Bf, 0, none⟩ = some (.func (.func 150) #[] #[.pointer (some ⟨Bn, 0, none⟩)])) (hc : w.cell? ⟨Bn, 0, none⟩ = some (.string s)) :
    Calls Tryz.prog 147 #[.slice none 0 0, .func (.func 148) #[] #[.pointer (some ⟨Bf, 0, none⟩)]] w fun e W' => ∃ v, e = .returned v ∧
      W'.ownsRow w.heap.size 9 1 v (wordsOn s 0).length (termCells s (wordsOn s 0)) ∧ (v = .slice none 0 0 ↔ wordsOn s 0 = []) ∧ Below w.heap.size w W' := by
  obtain ⟨i0, hi, hz0, hz1, hz2⟩ := info_parts infoStr
  have hN := wordsOn_len s s.size 0 (by omega)
  refine (callsIn_wide (n := 4)).1 ?_
  refine callsIn_of_wp_marks Tryz.func147 rfl trivial ?_ rfl
  simp only [Tryz.ntmps147, List.size_toArray, List.length_cons, List.length_nil, Nat.reduceAdd, Nat.reduceSub, Array.replicate_succ, Array.replicate_zero, List.push_toArray, List.append_toArray, List.nil_append, List.cons_append]
  gi_wp2
  have bO := Boxed.new w 56 (.slice none 0 0)
  have hB0 : Below w.heap.size w (w.alloc (.cells #[.slice none 0 0] 56)) := (Below.refl _ w).alloc (Nat.le_refl _) _
  have hsz : (w.alloc (.cells #[.slice none 0 0] 56)).heap.size = w.heap.size + 1 := by simp
  obtain ⟨W0, hW0⟩ : ∃ W0, w.alloc (.cells #[.slice none 0 0] 56) = W0 := ⟨_, rfl⟩
  rw [hW0] at bO hB0 hsz ⊢
  clear hW0
  have hI : OwnFrom W0.heap.size (fun pre V => (∃ v, Boxed V w.heap.size 56 v ∧ V.ownsRow (w.heap.size + 4) 9 1 v pre.length (termCells s pre) ∧ (v = .slice none 0 0 ↔ pre = [])) ∧ Below w.heap.size w V) :=
    OwnFrom.and (Own.from (holdsRow_own (w.heap.size + 4) w.heap.size 56 9 1 (fun pre => pre.length) (fun pre => termCells s pre) (fun pre v => v = .slice none 0 0 ↔ pre = [])) _) (ownFrom_below (Nat.le_refl _) (by omega))
  refine rangeAll (w.heap.size + 4) (n := 4) (encs := fun x => #[termVal s x]) (Kp := Kq w.heap.size (w.heap.size + 3)) rfl (enters_of Tryz.func148 (by kernel_rfl) rfl) (wordsOn s 0) _ hI
    (fun h k => h.trans k) (fun V _ o' _ _ => ⟨below_put (by omega) V o', ⟨by simp, fun k ob hk h1 _ => (World.putObj_heap_other (by omega)).trans h1⟩, World.putObj_heap_other (by omega)⟩) (fun _ => rfl)
    (fun r V hb hVs hY2 hk => term1_all (W0.heap.size + 1) Bf Bn w.heap.size s hs hBf hBn _ V (by omega) (ownFrom_kept hI (by omega)) (fun pre x W1 h hm hl => by rw [show V.heap.size = w.heap.size + 3 from by omega]; exact hY2 pre x W1 h (by omega) hl)
      (by rw [hb.cell (p := ⟨Bf, 0, none⟩) (by show Bf < _; omega), hB0.cell (p := ⟨Bf, 0, none⟩) hBf]; exact hcf) (by rw [hb.cell (p := ⟨Bn, 0, none⟩) (by show Bn < _; omega), hB0.cell (p := ⟨Bn, 0, none⟩) hBn]; exact hc) hk)
    ⟨⟨_, bO, World.ownsRow_nil _ _ _ _, by simp⟩, hB0⟩
    (fun x a' _ => a' = { tmps := #[.slice none 0 0, .func (.func 148) #[] #[.pointer (some ⟨Bf, 0, none⟩)], .pointer (some ⟨w.heap.size, 0, none⟩), undef, .slice none 0 0, termVal s x, .func (.func 148) #[] #[.pointer (some ⟨Bf, 0, none⟩)], termVal s x, undef, undef, undef, undef, undef], defers := [] })
    (fun _ _ _ _ _ _ hs _ _ => hs)
    ?assign ?body ?done
  case assign =>
    rintro l pre x V K hi' hm hK
    simp only [termVal]
    gi_wp2
    exact hK _ _ (KeepsFrom.refl _ _) ⟨Below.refl _ _, KeepsFrom.refl _ _, rfl⟩ hi' rfl
  case body =>
    rintro l pre x a' V hl ⟨⟨v, bV, hrow, hnil⟩, hB1⟩ rfl hm hlt
    have cV := bV.cell
    have fV := bV.frozen
    simp only [termVal]
    gi_wp2_with (gi_at_builtin; refine wpListIn_append_own _ rfl _ _ 56 rfl (w.heap.size + 4) 9 i0 (.string ⟨#[]⟩) 1 16 Tryz.underlying56 hi hz0 hz1 hz2 rfl (by decide) _ _ _ rfl (hrow.alloc _) ⟨V.heap.size, 0, none⟩ 1 1 [.string (stemA (s.extract x.1 x.2))] rfl rfl (cells_new _ _ _) (str_one _) (by unfold maxLen; omega) (by omega) (by simp; omega) ?_; intro v' w1 hown' hgrow _; obtain ⟨g', cap', rfl⟩ := ownsRow_succ hown'; obtain ⟨hv1, hv2, hr2, hk2, hb2⟩ := appended2 (n₀ := w.heap.size) (M := w.heap.size + 3) bV (by decide) hrow (Nat.le_refl _) (by omega) (by omega) hm hown' hgrow; have hc1 := hv1.cell; have hf1 := hv1.frozen)
    rw [← termCells_snoc] at hr2
    exact ⟨hk2.from _, hb2, ⟨_, hv2, by rw [List.length_append]; exact hr2, by simp⟩, hB1.trans hb2.below⟩
  case done =>
    rintro D V hD ⟨⟨v, bV, hrow, hnil⟩, hB1⟩ hK
    have cV := bV.cell
    gi_wp2
    refine ⟨by simp, .inl ⟨_, _, rfl, run_takeDeferred hK, ?_⟩⟩
    exact ⟨_, results_tmp rfl _ _ _, v, rfl, ownsRow_putObj (ownsRow_mono hrow (by omega)) _ hK rfl, hnil, hB1.trans (below_put (by omega) V _)⟩

theorem eachTerm_any (f : Value) (Bn : Nat) (w : World) (he : f = .func (.func 150) #[] #[.pointer (some ⟨Bn, 0, none⟩)]) :
    Calls Tryz.prog 137 #[f] w fun e w' => e = .returned (.func (.func 148) #[] #[.pointer (some ⟨w.heap.size, 0, none⟩)]) ∧ w' = w.alloc (.cells #[f] 184) := by
  subst he
  go_enter Tryz.func137, Tryz.ntmps137
  go_wp2
  go_ret
  exact ⟨rfl, rfl⟩

theorem termsI_any (s : ByteArray) (w : World) (hs : s.size ≤ 1048576) :
    Calls Tryz.prog 120 #[.string s] w fun e W' => ∃ v, e = .returned v ∧
      W'.ownsRow w.heap.size 9 1 v (wordsOn s 0).length (termCells s (wordsOn s 0)) ∧ (v = .slice none 0 0 ↔ wordsOn s 0 = []) ∧ Below w.heap.size w W' := by
  have HC : ∀ (Bf Bn : Nat) (w : World), Bf < w.heap.size → Bn < w.heap.size → w.cell? ⟨Bf, 0, none⟩ = some (.func (.func 150) #[] #[.pointer (some ⟨Bn, 0, none⟩)]) → w.cell? ⟨Bn, 0, none⟩ = some (.string s) → Calls Tryz.prog 136 #[.func (.func 148) #[] #[.pointer (some ⟨Bf, 0, none⟩)]] w fun e W' => ∃ v, e = .returned v ∧
      W'.ownsRow w.heap.size 9 1 v (wordsOn s 0).length (termCells s (wordsOn s 0)) ∧ (v = .slice none 0 0 ↔ wordsOn s 0 = []) ∧ Below w.heap.size w W' := by
    intro Bf Bn w hBf hBn hcf hc
    go_enter Tryz.func136, Tryz.ntmps136
    go_wp2_with fail
    refine (appendTerms_any s hs Bf Bn _ hBf hBn hcf hc).mono ?_
    rintro e w1 ⟨v, rfl, h1, h2, h3⟩
    have H2 : Hid (v = .slice none 0 0 ↔ wordsOn s 0 = []) := h2
    clear h2
    go_wp2
    go_ret
    exact ⟨v, rfl, h1, H2.out, h3⟩
  go_enter Tryz.func120, Tryz.ntmps120
  go_wp2_with fail
  refine (eachWord_any s _).mono ?_
  rintro e w1 ⟨rfl, rfl⟩
  go_wp2_with fail
  refine (eachTerm_any _ w.heap.size _ rfl).mono ?_
  rintro e w1 ⟨rfl, rfl⟩
  go_wp2_with fail
  refine (HC (w.heap.size + 1) w.heap.size _ (by simp) (by simp; omega) (by simp) (by simp)).mono ?_
  rintro e w2 ⟨v, rfl, h1, h2, h3⟩
  have H2 : Hid (v = .slice none 0 0 ↔ wordsOn s 0 = []) := h2
  have H1 := ownsRow_mono (b' := w.heap.size) h1 (by simp; omega)
  have H3 : Below w.heap.size w w2 := (((Below.refl _ w).alloc (Nat.le_refl _) _).alloc (by simp) _).trans (h3.mono (by simp; omega))
  clear h2 h1 h3 HC
  go_wp2
  go_ret
  exact ⟨v, rfl, H1, H2.out, H3⟩
end Go.Proofs.YtbifagdcnpnpjaaGreat

/- Rows of strings: what is read, compared, marked and held. -/
namespace Go.Proofs.YtbifagdcnpnpjaaGreat
open Go.RowKit

/-- A slice of strings, as it is read. -/
def StrRow (w : World) (a : Option Addr) (ss : List ByteArray) : Prop := 0 < ss.length → ∃ g, a = some ⟨g, 0, none⟩ ∧ g < w.heap.size ∧ ∀ i, i < ss.length → w.cell? ⟨g, i, none⟩ = some (.string (ss.getD i ⟨#[]⟩))
theorem StrRow.below {w w' : World} {a : Option Addr} {ss : List ByteArray} (h : StrRow w a ss) (hb : Below w.heap.size w w') : StrRow w' a ss := fun hp => by
  obtain ⟨g, e, hg, hc⟩ := h hp
  exact ⟨g, e, by have := hb.size; omega, fun i hi => by rw [hb.cell (p := ⟨g, i, none⟩) hg]; exact hc i hi⟩
theorem owns_strRow {w : World} {base : Nat} {e : TypeId} {v : Value} {ss : List ByteArray} (h : w.ownsRow base e 1 v ss.length (ss.map Value.string)) :
    ∃ a cap, v = .slice a ss.length cap ∧ StrRow w a ss := by
  rcases h.2 with ⟨rfl, h0⟩ | ⟨g, cap, cur, rfl, hb, hg, r⟩
  · exact ⟨none, 0, by rw [h0], fun hp => by omega⟩
  · refine ⟨_, cap, rfl, fun hp => ⟨g, rfl, lt_of_block hg, fun i hi => ?_⟩⟩
    rw [h.cellAt i (by omega), List.getElem?_map, List.getElem?_eq_getElem hi, List.getD_eq_getElem?_getD, List.getElem?_eq_getElem hi]
    rfl

end Go.Proofs.YtbifagdcnpnpjaaGreat

/- The contract of spec.Terms. -/
namespace Go.Proofs.YtbifagdcnpnpjaaGreat
open Go.RowKit

def termsL (s : ByteArray) : List ByteArray := (wordsOn s 0).map fun x => stemA (s.extract x.1 x.2)
theorem termCells_eq (s : ByteArray) : termCells s (wordsOn s 0) = (termsL s).map Value.string := by simp [termCells, termsL]
theorem termsL_len (s : ByteArray) : (termsL s).length = (wordsOn s 0).length := by simp [termsL]
theorem wordCells_len (s : ByteArray) (l : List (Nat × Nat)) : (wordCells s l).length = l.length * 3 := by
  induction l with
  | nil => rfl
  | cons x l ih => simp [wordCells] at ih ⊢; omega
theorem wordCells_at (s : ByteArray) : ∀ (l : List (Nat × Nat)) (k : Nat) (h : k < l.length), (wordCells s l)[k * 3]? = some (.string (s.extract l[k].1 l[k].2)) ∧ (wordCells s l)[k * 3 + 1]? = some (.int .i64 l[k].1) ∧ (wordCells s l)[k * 3 + 2]? = some (.int .i64 l[k].2)
  | [], k, h => by simp at h
  | x :: l, 0, _ => by simp [wordCells]
  | x :: l, k + 1, h => by
    have ih := wordCells_at s l k (by simpa using h)
    have e : wordCells s (x :: l) = [.string (s.extract x.1 x.2), .int .i64 x.1, .int .i64 x.2] ++ wordCells s l := by simp [wordCells]
    rw [e, show (k + 1) * 3 = k * 3 + 3 from by omega]
    simp only [List.getElem_cons_succ]
    refine ⟨?_, ?_, ?_⟩
    · rw [List.getElem?_append_right (by simp)]; simpa using ih.1
    · rw [List.getElem?_append_right (by simp)]; simpa [show k * 3 + 3 + 1 - 3 = k * 3 + 1 from by omega] using ih.2.1
    · rw [List.getElem?_append_right (by simp)]; simpa [show k * 3 + 3 + 2 - 3 = k * 3 + 2 from by omega] using ih.2.2

/-- A slice of words, as it is read. -/
def WordRow (w : World) (a : Option Addr) (s : ByteArray) (l : List (Nat × Nat)) : Prop := 0 < l.length → ∃ g, a = some ⟨g, 0, none⟩ ∧ g < w.heap.size ∧ ∀ (i : Nat) (h : i < l.length), w.cell? ⟨g, i * 3, none⟩ = some (.string (s.extract l[i].1 l[i].2)) ∧ w.cell? ⟨g, i * 3 + 1, none⟩ = some (.int .i64 l[i].1) ∧ w.cell? ⟨g, i * 3 + 2, none⟩ = some (.int .i64 l[i].2)
theorem WordRow.below {w w' : World} {a : Option Addr} {s : ByteArray} {l : List (Nat × Nat)} (h : WordRow w a s l) (hb : Below w.heap.size w w') : WordRow w' a s l := fun hp => by
  obtain ⟨g, e, hg, hc⟩ := h hp
  exact ⟨g, e, by have := hb.size; omega, fun i hi => by rw [hb.cell (p := ⟨g, i * 3, none⟩) hg, hb.cell (p := ⟨g, i * 3 + 1, none⟩) hg, hb.cell (p := ⟨g, i * 3 + 2, none⟩) hg]; exact hc i hi⟩
theorem owns_wordRow {w : World} {base : Nat} {e : TypeId} {v : Value} {s : ByteArray} {l : List (Nat × Nat)} (h : w.ownsRow base e 3 v l.length (wordCells s l)) :
    ∃ a cap, v = .slice a l.length cap ∧ WordRow w a s l := by
  rcases h.2 with ⟨rfl, h0⟩ | ⟨g, cap, cur, rfl, hb, hg, r⟩
  · exact ⟨none, 0, by rw [h0], fun hp => by omega⟩
  · refine ⟨_, cap, rfl, fun hp => ⟨g, rfl, lt_of_block hg, fun i hi => ?_⟩⟩
    have := wordCells_at s l i hi
    rw [h.cellAt (i * 3) (by omega), h.cellAt (i * 3 + 1) (by omega), h.cellAt (i * 3 + 2) (by omega)]
    exact this

def termsTo (s : ByteArray) (L : List (Nat × Nat)) (k : Nat) : List Value := (L.take k).map fun x => .string (stemA (s.extract x.1 x.2))
theorem termsTo_snoc (s : ByteArray) (L : List (Nat × Nat)) (k : Nat) (h : k < L.length) : termsTo s L (k + 1) = termsTo s L k ++ [.string (stemA (s.extract L[k].1 L[k].2))] := by
  rw [termsTo, List.take_succ_eq_append_getElem h, List.map_append]
  rfl

set_option maxHeartbeats 1000000 in
theorem termsS_any (s : ByteArray) (w : World) (hs : s.size ≤ 1048576) :
    Calls Tryz.prog 114 #[.string s] w fun e w' => ∃ v, e = .returned v ∧ w'.ownsRow w.heap.size 9 1 v (termsL s).length ((termsL s).map Value.string) ∧ Below w.heap.size w w' := by
  obtain ⟨i0, hi, hz0, hz1, hz2⟩ := info_parts infoStr
  have hN := wordsOn_len s s.size 0 (by omega)
  rw [termsL_len, ← termCells_eq, show termCells s (wordsOn s 0) = termsTo s (wordsOn s 0) (wordsOn s 0).length from by simp [termCells, termsTo]]
  go_enter Tryz.func114, Tryz.ntmps114
  go_wp2_with fail
  refine (wordsS_any s _ hs).mono ?_
  rintro e w1 ⟨g, cap, rfl, hown, hb1⟩
  obtain ⟨a, cap', hv, hrow⟩ := owns_wordRow hown
  simp only [Value.slice.injEq] at hv
  obtain ⟨rfl, _, rfl⟩ := hv
  have hb1s : w.heap.size + 1 ≤ w1.heap.size := by have := hb1.size; simpa using this
  have hbw1 : Below w.heap.size w w1 := ((Below.refl _ w).alloc (Nat.le_refl _) _).trans (hb1.mono (by simp))
  have hlit : w1.ownsRow w.heap.size 9 1 (.slice (some ⟨w.heap.size, 0, none⟩) 0 0) 0 [] := (World.ownsRow_lit w #[] 0 (Nat.le_refl _) (by decide) rfl : (w.alloc (.cells #[] 9)).ownsRow w.heap.size 9 1 _ 0 []).kept (grown_none hb1) (.inr (by simp [Value.ownBlock]))
  obtain ⟨cur, hcur⟩ : ∃ cur, w1.heap[g]? = some (.cells cur 176 (0, 0)) := by
    rcases hown.2 with ⟨h, _⟩ | ⟨g', _, cur, h, _, hg, _⟩
    · cases h
    · cases h; exact ⟨cur, hg⟩
  clear hown hb1
  go_wp2
  go_loopw [3, 5] (fun v i wr => ∃ k : Nat, k ≤ (wordsOn s 0).length ∧ i = .int .i64 k ∧ wr.ownsRow w.heap.size 9 1 v k (termsTo s (wordsOn s 0) k) ∧ v ≠ .slice none 0 0 ∧ wr.heap[g]? = some (.cells cur 176 (0, 0)) ∧ Below w.heap.size w wr) (fun _ i _ => (wordsOn s 0).length - (intOf i).toNat)
  case atStart => exact ⟨0, Nat.zero_le _, rfl, hlit, nofun, hcur, hbw1⟩
  case round =>
    obtain ⟨k, hk, rfl, hown, hnn, hgr, hbel⟩ := hrel
    by_cases hlt : k < (wordsOn s 0).length
    · obtain ⟨g', e', hg1, hc⟩ := hrow (by omega)
      simp only [Option.some.injEq, Addr.mk.injEq, and_true] at e'
      subst e'
      have c1 : wr.cell? ⟨g, k * 3, none⟩ = some (.string (s.extract (wordsOn s 0)[k].1 (wordsOn s 0)[k].2)) := by rw [World.cell?_of_block (w := w1) (hgr.trans hcur.symm)]; exact (hc k hlt).1
      clear hc
      have HS : Hid (termsTo s (wordsOn s 0) (k + 1) = termsTo s (wordsOn s 0) k ++ [.string (stemA (s.extract (wordsOn s 0)[k].1 (wordsOn s 0)[k].2))]) := termsTo_snoc s _ k hlt
      have hxs : (s.extract (wordsOn s 0)[k].1 (wordsOn s 0)[k].2).size ≤ 1099511627776 := by simp; omega
      generalize s.extract (wordsOn s 0)[k].1 (wordsOn s 0)[k].2 = t at *
      go_wp2_with fail
      refine (stemS_any t _ hxs).mono ?_
      rintro e w2 ⟨rfl, hb2⟩
      have ho2 := hown.kept (grown_none hb2) (.inr (by rcases hown.2 with ⟨rfl, _⟩ | ⟨g2, _, _, rfl, _⟩ <;> simp_all [Value.ownBlock]))
      have hsz2 := hb2.size
      have hb1w := hbel.size
      go_wp2_with (at_builtin; refine wpList_append_own _ rfl _ _ 56 rfl w.heap.size 9 i0 (.string ⟨#[]⟩) 1 16 Tryz.underlying56 hi hz0 hz1 hz2 rfl (by decide) _ _ _ rfl (ho2.alloc _) ⟨w2.heap.size, 0, none⟩ 1 1 [.string (stemA t)] rfl rfl (cells_new _ _ _) (str_one _) (by unfold maxLen; omega) (by omega) (by simp; omega) ?_)
      intro v' w3 hown' hgrow hnil
      have hnn' : v' ≠ .slice none 0 0 := hnil
      clear hnil
      rw [← HS.out] at hown'
      have hgr2 : (w2.alloc (.cells #[.string (stemA t)] 9)).heap[g]? = some (.cells cur 176 (0, 0)) := by
        rw [Below.heap_alloc _ _ _ (by have := lt_of_block hgr; omega), hb2.block g (lt_of_block hgr)]
        exact hgr
      have hgr3 : w3.heap[g]? = some (.cells cur 176 (0, 0)) := by
        rw [hgrow.block g (lt_of_block hgr2) (fun e => ?_)]
        · exact hgr2
        · rcases (ho2.alloc (.cells #[.string (stemA t)] 9)).2 with ⟨h, _⟩ | ⟨g2, _, cur2, h, _, hg2, _⟩
          · exact hnn h
          · rw [h] at e
            simp only [Value.ownBlock, Option.some.injEq] at e
            subst e
            rw [hgr2] at hg2
            simp at hg2
      have hb3 : Below w.heap.size w w3 := ((hbel.trans (hb2.mono hb1w)).alloc (by omega) _).grown hgrow (by simp; omega) (fun j hj => (hown.lt j hj).1)
      clear hgrow hown ho2 hgr2 hgr hrow
      go_wp2
      go_roundw
      case rel => exact ⟨k + 1, by omega, by go_num, hown', hnn', hgr3, hb3⟩
      case measure => simp [intOf]; omega
    · have hkl : k = (wordsOn s 0).length := by omega
      subst hkl
      clear hrow
      go_wp2
      go_ret
      exact ⟨_, rfl, hown, hbel⟩

theorem termsI2_any (s : ByteArray) (w : World) (hs : s.size ≤ 1048576) :
    Calls Tryz.prog 120 #[.string s] w fun e w' => ∃ v, e = .returned v ∧ w'.ownsRow w.heap.size 9 1 v (termsL s).length ((termsL s).map Value.string) ∧ Below w.heap.size w w' := by
  refine (termsI_any s w hs).mono ?_
  rintro e w' ⟨v, rfl, h1, _, h3⟩
  exact ⟨v, rfl, by rw [termsL_len, ← termCells_eq]; exact h1, h3⟩
theorem termsL_le (s : ByteArray) : (termsL s).length ≤ s.size := by rw [termsL_len]; exact wordsOn_len s s.size 0 (by omega)
end Go.Proofs.YtbifagdcnpnpjaaGreat

/- Which field has a name. -/
namespace Go.Proofs.YtbifagdcnpnpjaaGreat
open Go.RowKit
set_option linter.unusedVariables false

def fidx (fs : List Fld) (n : ByteArray) : Nat := fs.findIdx fun f => f.name.toList == n.toList
theorem noneTo_at {fs : List Fld} {n : ByteArray} {k : Nat} (h : noneTo fs n k = true) (j : Nat) (hj : j < k) : ((fat fs j).name.toList == n.toList) = false := by
  have := (allTo_iff _ _).1 h j hj
  simpa using this
theorem fidx_at {fs : List Fld} {n : ByteArray} {k : Nat} (hk : k < fs.length) (h1 : ((fat fs k).name.toList == n.toList) = true) (h2 : noneTo fs n k = true) : fidx fs n = k := by
  unfold fidx
  rw [List.findIdx_eq hk]
  rw [fat_get _ _ hk] at h1
  refine ⟨h1, fun j hj => ?_⟩
  have := noneTo_at h2 j hj
  rw [fat_get _ _ (by omega)] at this
  exact this
theorem fidx_none {fs : List Fld} {n : ByteArray} (h : noneTo fs n fs.length = true) : fidx fs n = fs.length := by
  unfold fidx
  rw [List.findIdx_eq_length]
  intro f hf
  obtain ⟨j, hj, rfl⟩ := List.getElem_of_mem hf
  have := noneTo_at h j hj
  rw [fat_get _ _ hj] at this
  exact this
theorem fpos_idx {fs : List Fld} {n : ByteArray} {p : Int} (h : FPos fs n p) : (∃ k : Nat, p = k ∧ k < fs.length ∧ fidx fs n = k) ∨ (p = -1 ∧ fidx fs n = fs.length) := by
  rcases h with ⟨k, hk, rfl, h1, h2⟩ | ⟨rfl, h2⟩
  · exact .inl ⟨k, rfl, hk, fidx_at hk h1 h2⟩
  · exact .inr ⟨rfl, fidx_none h2⟩
theorem found_idx {fs : List Fld} {n : ByteArray} {f : Fld} {b : Bool} (h : FoundF fs n f b) : (b = true ∧ fidx fs n < fs.length ∧ f = fat fs (fidx fs n)) ∨ (b = false ∧ fidx fs n = fs.length) := by
  rcases h with ⟨rfl, k, hk, rfl, h1, h2⟩ | ⟨rfl, _, h2⟩
  · refine .inl ⟨rfl, ?_⟩
    rw [fidx_at hk h1 h2]
    exact ⟨hk, rfl⟩
  · exact .inr ⟨rfl, fidx_none h2⟩
end Go.Proofs.YtbifagdcnpnpjaaGreat

/- Is a field of a kind? -/
namespace Go.Proofs.YtbifagdcnpnpjaaGreat
open Go.RowKit
set_option linter.unusedVariables false

def kindB (fs : List Fld) (n : ByteArray) (k : Int) : Bool := (fat fs (fidx fs n)).kind == k
set_option maxHeartbeats 1000000 in
theorem l2Kind_any (a : Option Addr) (cap : Nat) (fs : List Fld) (n : ByteArray) (k : Int) (w : World) (hk0 : k ≠ 0) (hz : fs.length ≤ 1048576) (hr : FldRow w a fs) :
    Calls Tryz.prog 113 #[.slice a fs.length cap, .string n, .int .i64 k] w fun e w' => e = .returned (.bool (kindB fs n k)) ∧ w' = w := by
  have HL : Hid (Calls Tryz.prog 81 #[.slice a fs.length cap, .string n] w fun e w' => ∃ p : Int, e = .returned (.int .i64 p) ∧ FPos fs n p ∧ w' = w) := l2Field_any a cap fs n w hz hr
  go_enter Tryz.func113, Tryz.ntmps113
  go_wp2_with fail
  refine HL.out.mono ?_
  rintro e w1 ⟨q, rfl, hq, rfl⟩
  clear HL
  rcases fpos_idx hq with ⟨j, rfl, hj, hi⟩ | ⟨rfl, hi⟩
  · have HB : Hid (kindB fs n k = ((fat fs j).kind == k)) := by unfold Hid kindB; rw [hi]
    obtain ⟨g, off, rfl, hg, hc⟩ := hr (by omega)
    obtain ⟨c0, c1, c2⟩ := hc j hj
    have h0 : (0 : Int) ≤ (j : Int) := by omega
    have h1 : (j : Int) < (fs.length : Int) := by omega
    clear hq hi hr hc
    generalize fat fs j = f at *
    go_wp2
    go_ret
    exact ⟨by rw [HB.out]; rfl, rfl⟩
  · have HB : Hid (kindB fs n k = false) := by
      unfold Hid kindB
      rw [hi]
      simp [fat]
      exact fun e => hk0 e.symm
    clear hq hi hr
    go_wp2
    go_ret
    exact ⟨by rw [HB.out]; rfl, rfl⟩
end Go.Proofs.YtbifagdcnpnpjaaGreat

/- Which texts may stand in a cell: impl.isPlain, impl.textOk, spec.l2Text. -/
namespace Go.Proofs.YtbifagdcnpnpjaaGreat
open Go.RowKit

def seenB (s : ByteArray) (j : Nat) : Bool := decide (32 ≤ byteAt s j) && decide (byteAt s j ≤ 126)
/-- A text may stand in a cell. -/
def textB (s : ByteArray) : Bool := decide ((s.size : Int) ≤ 60) && allTo (seenB s) s.size
theorem textB_no (s : ByteArray) (k : Nat) (h : k < s.size) (hf : seenB s k = false) : textB s = false := by
  unfold textB
  rw [allTo_false _ _ k h hf]
  simp

def plainB (s : ByteArray) : Bool := allTo (seenB s) s.size

set_option maxHeartbeats 1000000 in
theorem isPlain_any (s : ByteArray) (w : World) (hs : s.size ≤ maxLen) :
    Calls Tryz.prog 141 #[.string s] w fun e w' => e = .returned (.bool (plainB s)) ∧ w' = w := by
  unfold maxLen at hs
  go_enter Tryz.func141, Tryz.ntmps141
  go_wp2
  go_loop [6] (fun i => ∃ k : Nat, k ≤ s.size ∧ i = .int .i64 k ∧ allTo (seenB s) k = true) (fun i => s.size - (intOf i).toNat)
  case atStart => exact ⟨0, Nat.zero_le _, rfl, rfl⟩
  case round =>
    obtain ⟨k, hk, rfl, ha⟩ := hrel
    have HA : Hid (allTo (seenB s) k = true) := ha
    clear ha
    by_cases hlt : k < s.size
    · have HS : Hid (seenB s k = (decide (32 ≤ ((s[k]'hlt).toNat : Int)) && decide (((s[k]'hlt).toNat : Int) ≤ 126))) := by unfold Hid seenB; rw [byteAt_eq s k hlt]
      have HNO : Hid (seenB s k = false → plainB s = false) := fun h => allTo_false _ _ k hlt h
      by_cases h1 : ((s[k]'hlt).toNat : Int) < 32
      · have hb : Hid (plainB s = false) := HNO.out (by rw [HS.out]; simp; omega)
        go_wp2
        go_ret
        exact ⟨ret_bool hb.out.symm, rfl⟩
      have d1 : decide (((s[k]'hlt).toNat : Int) < 32) = false := by simpa using h1
      by_cases h2 : 126 < ((s[k]'hlt).toNat : Int)
      · have hb : Hid (plainB s = false) := HNO.out (by rw [HS.out]; simp; omega)
        go_wp2
        go_ret
        exact ⟨ret_bool hb.out.symm, rfl⟩
      have d2 : decide (126 < ((s[k]'hlt).toNat : Int)) = false := by simpa using h2
      have HN : Hid (allTo (seenB s) (k + 1) = true) := allTo_snoc _ k HA.out (by rw [HS.out]; simp; omega)
      go_wp2
      go_round
      case rel => exact ⟨k + 1, by omega, by go_num, HN.out⟩
      case measure => simp [intOf]; omega
    · have hkl : k = s.size := by omega
      subst hkl
      have hb : Hid (plainB s = true) := HA.out
      go_wp2
      go_ret
      exact ⟨ret_bool hb.out.symm, rfl⟩
theorem textOk_any (s : ByteArray) (w : World) (hs : s.size ≤ maxLen) :
    Calls Tryz.prog 125 #[.string s] w fun e w' => e = .returned (.bool (textB s)) ∧ w' = w := by
  by_cases h60 : (s.size : Int) ≤ 60
  · have HB : Hid (textB s = plainB s) := by unfold Hid textB plainB; simp [h60]
    go_enter Tryz.func125, Tryz.ntmps125
    go_wp2_with fail
    refine (isPlain_any s _ hs).mono ?_
    rintro e w1 ⟨rfl, rfl⟩
    go_wp2
    go_ret
    exact ⟨ret_bool HB.out.symm, rfl⟩
  · have HB : Hid (textB s = false) := by unfold Hid textB; simp [h60]
    unfold maxLen at hs
    go_enter Tryz.func125, Tryz.ntmps125
    go_wp2
    go_ret
    exact ⟨ret_bool HB.out.symm, rfl⟩

set_option maxHeartbeats 1000000 in
theorem l2Text_any (s : ByteArray) (w : World) (hs : s.size ≤ maxLen) :
    Calls Tryz.prog 112 #[.string s] w fun e w' => e = .returned (.bool (textB s)) ∧ w' = w := by
  unfold maxLen at hs
  go_enter Tryz.func112, Tryz.ntmps112
  go_wp2
  go_loop [3] (fun i => ∃ k : Nat, k ≤ s.size ∧ i = .int .i64 k ∧ allTo (seenB s) k = true) (fun i => s.size - (intOf i).toNat)
  case atStart => exact ⟨0, Nat.zero_le _, rfl, rfl⟩
  case round =>
    obtain ⟨k, hk, rfl, ha⟩ := hrel
    have HA : Hid (allTo (seenB s) k = true) := ha
    clear ha
    by_cases hlt : k < s.size
    · have HS : Hid (seenB s k = inB ((s[k]'hlt).toNat : Int) 32 126) := by unfold Hid seenB inB; rw [byteAt_eq s k hlt]
      have HNO : Hid (seenB s k = false → textB s = false) := textB_no s k hlt
      have hbb := byteAt_bd s k
      rw [byteAt_eq s k hlt] at hbb
      obtain ⟨hb0, hb1⟩ := hbb
      cases h1 : inB ((s[k]'hlt).toNat : Int) 32 126 with
      | false =>
        have hb : Hid (textB s = false) := HNO.out (by rw [HS.out, h1])
        go_wp2_with fail
        refine (l1In_any ((s[k]'hlt).toNat : Int) 32 126 _).mono ?_
        rintro e w5 ⟨rfl, rfl⟩
        rw [h1]
        go_wp2
        go_ret
        exact ⟨ret_bool hb.out.symm, rfl⟩
      | true =>
        have HN : Hid (allTo (seenB s) (k + 1) = true) := allTo_snoc _ k HA.out (by rw [HS.out, h1])
        go_wp2_with fail
        refine (l1In_any ((s[k]'hlt).toNat : Int) 32 126 _).mono ?_
        rintro e w5 ⟨rfl, rfl⟩
        rw [h1]
        go_wp2
        go_round
        case rel => exact ⟨k + 1, by omega, by go_num, HN.out⟩
        case measure => simp [intOf]; omega
    · have hkl : k = s.size := by omega
      subst hkl
      have hb : Hid (textB s = decide ((s.size : Int) ≤ 60)) := by unfold Hid textB; rw [HA.out]; simp
      go_wp2
      go_ret
      exact ⟨ret_bool hb.out.symm, rfl⟩
end Go.Proofs.YtbifagdcnpnpjaaGreat

/- The form of a document: docHasForm and l2Form. -/
namespace Go.Proofs.YtbifagdcnpnpjaaGreat
open Go.RowKit

end Go.Proofs.YtbifagdcnpnpjaaGreat

/- docHasForm and l2Form answer the same. -/
namespace Go.Proofs.YtbifagdcnpnpjaaGreat
open Go.RowKit

/-- A cell stands behind the one ahead. -/
def ordB (cs : List Cel) (k : Nat) : Bool := decide (k = 0) || Op.bytesLess (cat cs (k - 1)).name.toList (cat cs k).name.toList
def celOk (cs : List Cel) (k : Nat) : Bool := ordB cs k && nameI (cat cs k).name && textB (cat cs k).text
def formB (key : ByteArray) (cs : List Cel) : Bool := nameI key && decide (cs.length ≤ 4) && allTo (celOk cs) cs.length
theorem formB_no (key : ByteArray) (cs : List Cel) (k : Nat) (h : k < cs.length) (hf : celOk cs k = false) : formB key cs = false := by
  unfold formB
  rw [allTo_false _ _ k h hf]
  simp

set_option maxHeartbeats 2000000 in
theorem form_any (key : ByteArray) (a : Option Addr) (cap : Nat) (cs : List Cel) (w : World) (hk : key.size ≤ 1048576) (hz : cs.length ≤ 1048576) (hsm : CelsSmall cs) (hr : CelRow w a cs) :
    Calls Tryz.prog 103 #[.agg #[.string key, .slice a cs.length cap]] w fun e w' => e = .returned (.bool (formB key cs)) ∧ Below w.heap.size w w' := by
  have hb0 : Below w.heap.size w (w.alloc (.cells #[.string key, .slice a cs.length cap] 39)) := (Below.refl _ w).alloc (Nat.le_refl _) _
  cases hn : nameI key with
  | false =>
    have HB : Hid (formB key cs = false) := by unfold Hid formB; rw [hn]; rfl
    clear hr hsm
    go_enter Tryz.func103, Tryz.ntmps103
    go_wp2_with fail
    refine (nameI_any key _ (by unfold maxLen; omega)).mono ?_
    rintro e w5 ⟨rfl, rfl⟩
    rw [hn]
    go_wp2
    go_ret
    exact ⟨ret_bool HB.out.symm, hb0⟩
  | true =>
    by_cases h4 : 4 < (cs.length : Int)
    · have HB : Hid (formB key cs = false) := by unfold Hid formB; rw [show decide (cs.length ≤ 4) = false from by simp; omega]; simp
      clear hr hsm
      go_enter Tryz.func103, Tryz.ntmps103
      go_wp2_with fail
      refine (nameI_any key _ (by unfold maxLen; omega)).mono ?_
      rintro e w5 ⟨rfl, rfl⟩
      rw [hn]
      go_wp2
      go_ret
      exact ⟨ret_bool HB.out.symm, hb0⟩
    have d4 : decide (4 < (cs.length : Int)) = false := by simpa using h4
    have B0 := Blk.new w #[.string key, .slice a cs.length cap] 39
    have HB0 : Hid (Blk (w.alloc (.cells #[.string key, .slice a cs.length cap] 39)) w.heap.size #[.string key, .slice a cs.length cap] 39) := B0
    have HN : Hid (nameI key = true) := hn
    clear B0
    go_enter Tryz.func103, Tryz.ntmps103
    go_wp2_with fail
    refine (nameI_any key _ (by unfold maxLen; omega)).mono ?_
    rintro e w5 ⟨rfl, rfl⟩
    rw [hn]
    clear hn
    go_wp2
    go_loopw [18] (fun i wr => ∃ k : Nat, k ≤ cs.length ∧ i = .int .i64 k ∧ allTo (celOk cs) k = true ∧ Blk wr w.heap.size #[.string key, .slice a cs.length cap] 39 ∧ Below w.heap.size w wr) (fun i _ => cs.length - (intOf i).toNat)
    case atStart => exact ⟨0, Nat.zero_le _, rfl, rfl, HB0.out, hb0⟩
    case round =>
      clear HB0 hb0
      obtain ⟨k, hkk, rfl, ha, hblk, hbel⟩ := hrel
      have HA : Hid (allTo (celOk cs) k = true) := ha
      clear ha
      have hsz := hbel.size
      have hbl := hblk.lt
      by_cases hlt : k < cs.length
      · have hkl : (k : Int) < (cs.length : Int) := by omega
        obtain ⟨g, off, rfl, hg, hc⟩ := (hr.below hbel) (by omega)
        obtain ⟨c0, c1⟩ := hc k hlt
        obtain ⟨hs0, hs1⟩ := hsm k hlt
        have e1 : wr.cell? ⟨w.heap.size, 1, none⟩ = some (.slice (some ⟨g, off, none⟩) cs.length cap) := hblk.cell 1
        have HBK : Hid (Blk wr w.heap.size #[.string key, .slice (some ⟨g, off, none⟩) cs.length cap] 39) := hblk
        have HNO : Hid (celOk cs k = false → formB key cs = false) := formB_no key cs k hlt
        have HCO : Hid (celOk cs k = (ordB cs k && nameI (cat cs k).name && textB (cat cs k).text)) := rfl
        have hbA : Below w.heap.size w (wr.alloc (.cells #[.string (cat cs k).name, .string (cat cs k).text] 121)) := hbel.alloc hsz _
        have HBA : Hid (Blk (wr.alloc (.cells #[.string (cat cs k).name, .string (cat cs k).text] 121)) w.heap.size #[.string key, .slice (some ⟨g, off, none⟩) cs.length cap] 39) := HBK.out.alloc _
        clear hblk HBK
        cases ho : ordB cs k with
        | false =>
          have hb : Hid (formB key cs = false) := HNO.out (by rw [HCO.out, ho]; rfl)
          obtain ⟨j, rfl⟩ : ∃ j, k = j + 1 := ⟨k - 1, by cases k with | zero => simp [ordB] at ho | succ j => simp⟩
          have ho' : Op.bytesLess (cat cs j).name.toList (cat cs (j + 1)).name.toList = false := by simpa [ordB] using ho
          have p0 := (hc j (by omega)).1
          have i1 : (j : Int) + 1 < (cs.length : Int) := by omega
          have i2 : (j : Int) < (cs.length : Int) := by omega
          have i3 : (0 : Int) < (j : Int) + 1 := by omega
          generalize (cat cs j).name = pn at *
          generalize cat cs (j + 1) = cl at *
          obtain ⟨nm, tx⟩ := cl
          simp only at c0 c1 hs0 hs1 ho' HBA hbA
          clear hr hc hsm ho HCO HNO HA HBA
          go_wp2
          go_quiet (fail)
          go_wp2
          go_ret
          exact ⟨ret_bool hb.out.symm, below_drewN hbA _⟩
        | true =>
          have fin : ∀ b : Bool, nameI (cat cs k).name = true → textB (cat cs k).text = b → celOk cs k = b := fun b h1 h2 => by rw [HCO.out, ho, h1, h2]; simp
          have FIN : Hid (∀ b : Bool, nameI (cat cs k).name = true → textB (cat cs k).text = b → celOk cs k = b) := fin
          have HNN : Hid (nameI (cat cs k).name = false → celOk cs k = false) := fun h => by rw [HCO.out, h]; simp
          clear fin HCO
          rcases Nat.eq_zero_or_pos k with rfl | hkp
          · generalize cat cs 0 = cl at *
            obtain ⟨nm, tx⟩ := cl
            simp only [Nat.zero_mul, Nat.add_zero] at c0 c1 hs0 hs1 HBA hbA FIN HNN
            clear hr hc hsm ho
            have i3 : decide ((0 : Int) < ((0 : Nat) : Int)) = false := by simp
            go_wp2
            go_quiet (fail)
            go_wp2_with fail
            refine (nameI_any nm _ (by unfold maxLen; omega)).mono ?_
            rintro e w5 ⟨rfl, rfl⟩
            cases h1 : nameI nm with
            | false =>
              have hb : Hid (formB key cs = false) := HNO.out (HNN.out h1)
              go_wp2
              go_ret
              exact ⟨ret_bool hb.out.symm, below_drewN hbA _⟩
            | true =>
              go_wp2_with fail
              refine (textOk_any tx _ (by unfold maxLen; omega)).mono ?_
              rintro e w5 ⟨rfl, rfl⟩
              cases h2 : textB tx with
              | false =>
                have hb : Hid (formB key cs = false) := HNO.out (FIN.out _ h1 h2)
                go_wp2
                go_ret
                exact ⟨ret_bool hb.out.symm, below_drewN hbA _⟩
              | true =>
                have HS : Hid (allTo (celOk cs) (0 + 1) = true) := allTo_snoc _ 0 HA.out (FIN.out _ h1 h2)
                go_wp2
                go_roundw
                case rel => exact ⟨0 + 1, by omega, by go_num, HS.out, HBA.out, below_drewN hbA _⟩
                case measure => simp [intOf]; omega
          · obtain ⟨j, rfl⟩ : ∃ j, k = j + 1 := ⟨k - 1, by omega⟩
            have ho' : Op.bytesLess (cat cs j).name.toList (cat cs (j + 1)).name.toList = true := by simpa [ordB] using ho
            have p0 := (hc j (by omega)).1
            have i1 : (j : Int) + 1 < (cs.length : Int) := by omega
            have i2 : (j : Int) < (cs.length : Int) := by omega
            have i3 : (0 : Int) < (j : Int) + 1 := by omega
            generalize (cat cs j).name = pn at *
            generalize cat cs (j + 1) = cl at *
            obtain ⟨nm, tx⟩ := cl
            simp only at c0 c1 hs0 hs1 ho' HBA hbA FIN HNN
            clear hr hc hsm ho
            go_wp2
            go_quiet (fail)
            go_wp2_with fail
            refine (nameI_any nm _ (by unfold maxLen; omega)).mono ?_
            rintro e w5 ⟨rfl, rfl⟩
            cases h1 : nameI nm with
            | false =>
              have hb : Hid (formB key cs = false) := HNO.out (HNN.out h1)
              go_wp2
              go_ret
              exact ⟨ret_bool hb.out.symm, below_drewN hbA _⟩
            | true =>
              go_wp2_with fail
              refine (textOk_any tx _ (by unfold maxLen; omega)).mono ?_
              rintro e w5 ⟨rfl, rfl⟩
              cases h2 : textB tx with
              | false =>
                have hb : Hid (formB key cs = false) := HNO.out (FIN.out _ h1 h2)
                go_wp2
                go_ret
                exact ⟨ret_bool hb.out.symm, below_drewN hbA _⟩
              | true =>
                have HS : Hid (allTo (celOk cs) (j + 1 + 1) = true) := allTo_snoc _ (j + 1) HA.out (FIN.out _ h1 h2)
                go_wp2
                go_roundw
                case rel => exact ⟨j + 1 + 1, by omega, by go_num, HS.out, HBA.out, below_drewN hbA _⟩
                case measure => simp [intOf]; omega
      · have hkl : k = cs.length := by omega
        subst hkl
        have hb : Hid (formB key cs = true) := by unfold Hid formB; rw [HA.out, HN.out]; simp; omega
        clear hr hsm hblk
        go_wp2
        go_ret
        exact ⟨ret_bool hb.out.symm, hbel⟩
end Go.Proofs.YtbifagdcnpnpjaaGreat

/- Texts joined: plain mathematics. -/
namespace Go.Proofs.YtbifagdcnpnpjaaGreat
open Go.RowKit
theorem join_two (x y : List UInt8) (r : List (List UInt8)) (sep : List UInt8) : Lib.join (x :: y :: r) sep = x ++ sep ++ Lib.join (y :: r) sep := by
  simp [Lib.join, List.intercalate, List.intersperse]
theorem join_snoc (x sep : List UInt8) : ∀ (y : List UInt8) (xs : List (List UInt8)), Lib.join ((y :: xs) ++ [x]) sep = Lib.join (y :: xs) sep ++ sep ++ x
  | y, [] => by rw [List.cons_append, List.nil_append, join_two, Lib.join_one, Lib.join_one]
  | y, z :: zs => by
    have ih := join_snoc x sep z zs
    rw [List.cons_append] at ih
    rw [List.cons_append, List.cons_append, join_two, ih, join_two]
    simp
end Go.Proofs.YtbifagdcnpnpjaaGreat

/- Texts cut at a byte: plain mathematics. -/
namespace Go.Proofs.YtbifagdcnpnpjaaGreat
open Go.RowKit
set_option linter.unusedVariables false

theorem ba_ext {s t : ByteArray} (h : s.data.toList = t.data.toList) : s = t := by
  obtain ⟨⟨l⟩⟩ := s
  obtain ⟨⟨m⟩⟩ := t
  simp at h
  rw [h]
theorem ib_at (b : UInt8) : ∀ (l : List UInt8) (i : Nat), l[i]? = some b → (∀ j, j < i → l[j]? ≠ some b) → Lib.indexByte l b = i
  | [], i, h, _ => by simp at h
  | x :: t, 0, h, _ => by
    simp at h
    subst h
    simp [Lib.indexByte]
  | x :: t, i + 1, h, hn => by
    have hx : x ≠ b := fun e => hn 0 (by omega) (by simp [e])
    have ih := ib_at b t i (by simpa using h) (fun j hj => by have := hn (j + 1) (by omega); simpa using this)
    rw [Lib.indexByte, if_neg (by simpa using hx), ih, if_neg (by simp)]
    omega
theorem ib_no (b : UInt8) : ∀ (l : List UInt8), (∀ j, j < l.length → l[j]? ≠ some b) → Lib.indexByte l b = -1
  | [], _ => rfl
  | x :: t, hn => by
    have hx : x ≠ b := fun e => hn 0 (by simp) (by simp [e])
    have ih := ib_no b t (fun j hj => by have := hn (j + 1) (by simpa using hj); simpa using this)
    rw [Lib.indexByte, if_neg (by simpa using hx), ih, if_pos (by simp)]
theorem byteAt_some (s : ByteArray) (i : Nat) (b : UInt8) (hi : i < s.size) : byteAt s i = (b.toNat : Int) ↔ s.data.toList[i]? = some b := by
  have hl : i < s.data.toList.length := by simpa using hi
  unfold byteAt
  rw [List.getD_eq_getElem?_getD, List.getElem?_eq_getElem hl]
  simp only [Option.getD_some, Option.some.injEq]
  constructor
  · intro h
    exact UInt8.toNat_inj.1 (by omega)
  · intro h
    rw [h]
theorem indexB_at (s : ByteArray) (b : UInt8) (i : Nat) (hi : i < s.size) (hb : byteAt s i = (b.toNat : Int)) (hn : ∀ j, j < i → byteAt s j ≠ (b.toNat : Int)) : Lib.indexB s ⟨#[b]⟩ = i := by
  show Lib.index s.data.toList [b] = i
  rw [Lib.index_one]
  exact ib_at b _ i ((byteAt_some s i b hi).1 hb) (fun j hj e => hn j hj ((byteAt_some s j b (by omega)).2 e))
theorem indexB_no (s : ByteArray) (b : UInt8) (hn : ∀ j, j < s.size → byteAt s j ≠ (b.toNat : Int)) : Lib.indexB s ⟨#[b]⟩ = -1 := by
  show Lib.index s.data.toList [b] = -1
  rw [Lib.index_one]
  exact ib_no b _ (fun j hj e => hn j (by simpa using hj) ((byteAt_some s j b (by simpa using hj)).2 e))

/-- A text cut at a byte, so many times at most. -/
def cuts (b : UInt8) (k : Nat) (s : ByteArray) : List ByteArray := Lib.splitB ⟨#[b]⟩ 0 k s
theorem byteAt_drop (s : ByteArray) (f j : Nat) : byteAt (s.extract f s.size) j = byteAt s (f + j) := by
  unfold byteAt
  rw [Lib.extract_to_end, List.getD_eq_getElem?_getD, List.getD_eq_getElem?_getD, List.getElem?_drop]
theorem extract_two (s : ByteArray) (f i : Nat) (h : f ≤ i) (hi : i ≤ s.size) : (s.extract f s.size).extract 0 (i - f + 0) = s.extract f i := by
  apply ba_ext
  rw [Lib.extract_data, Lib.extract_to_end, Lib.extract_data]
  simp
theorem extract_rest (s : ByteArray) (f i : Nat) (h : f ≤ i) (hi : i < s.size) : (s.extract f s.size).extract (i - f + 1) (s.extract f s.size).size = s.extract (i + 1) s.size := by
  apply ba_ext
  rw [Lib.extract_to_end, Lib.extract_to_end, Lib.extract_to_end, List.drop_drop]
  congr 1
  omega
theorem cuts_hit (s : ByteArray) (b : UInt8) (k f i : Nat) (h : f ≤ i) (hi : i < s.size) (hb : byteAt s i = (b.toNat : Int)) (hn : ∀ j, f ≤ j → j < i → byteAt s j ≠ (b.toNat : Int)) :
    cuts b (k + 1) (s.extract f s.size) = s.extract f i :: cuts b k (s.extract (i + 1) s.size) := by
  have hs : (s.extract f s.size).size = s.size - f := by rw [ByteArray.size_extract]; omega
  have hix := indexB_at (s.extract f s.size) b (i - f) (by omega) (by rw [byteAt_drop, show f + (i - f) = i from by omega]; exact hb) (fun j hj => by rw [byteAt_drop]; exact hn (f + j) (by omega) (by omega))
  unfold cuts
  rw [Lib.splitB_hit _ _ _ _ _ hix, extract_two s f i h (by omega)]
  congr 1
  rw [show i - f + (⟨#[b]⟩ : ByteArray).size = i - f + 1 from rfl, extract_rest s f i h hi]
theorem cuts_miss (s : ByteArray) (b : UInt8) (k f : Nat) (hf : f ≤ s.size) (hn : ∀ j, f ≤ j → j < s.size → byteAt s j ≠ (b.toNat : Int)) : cuts b k (s.extract f s.size) = [s.extract f s.size] := by
  have hs : (s.extract f s.size).size = s.size - f := by rw [ByteArray.size_extract]; omega
  exact Lib.splitB_miss _ _ _ _ (indexB_no _ _ (fun j hj => by rw [byteAt_drop]; exact hn (f + j) (by omega) (by omega)))
theorem cuts_zero (s : ByteArray) (b : UInt8) : cuts b 0 s = [s] := rfl
theorem extract_all (s : ByteArray) : s.extract 0 s.size = s := by
  apply ba_ext
  rw [Lib.extract_to_end, List.drop_zero]
theorem cuts_len_le (b : UInt8) (k : Nat) (s : ByteArray) : (cuts b k s).length ≤ k + 1 := Lib.splitB_length_le _ _ _ _
theorem cuts_pos (b : UInt8) (k : Nat) (s : ByteArray) : 0 < (cuts b k s).length := by
  unfold cuts
  cases k with
  | zero => simp [Lib.splitB]
  | succ k => unfold Lib.splitB; split <;> simp
/-- How often a byte is in a text. -/
def manyB (b : UInt8) (s : ByteArray) : Nat := Lib.countB s ⟨#[b]⟩
theorem manyB_le (b : UInt8) (s : ByteArray) : manyB b s ≤ s.size := Lib.countB_le ⟨#[b]⟩ (Nat.le_refl 1) s.size s (Nat.le_refl _)
theorem cuts_enough (b : UInt8) : ∀ (k : Nat) (s : ByteArray), manyB b s ≤ k → cuts b k s = cuts b (manyB b s) s
  | 0, s, h => by
    have : manyB b s = 0 := by omega
    rw [this]
  | k + 1, s, h => by
    rcases Lib.indexB_cases s ⟨#[b]⟩ with hix | ⟨i, hix, hroom⟩
    · unfold cuts
      rw [Lib.splitB_miss _ _ _ _ hix, Lib.splitB_miss _ _ _ _ hix]
    · have hc := Lib.countB_hit s ⟨#[b]⟩ i (Nat.le_refl 1) hix
      have ih := cuts_enough b k (s.extract (i + (⟨#[b]⟩ : ByteArray).size) s.size) (by unfold manyB at h ⊢; omega)
      unfold manyB cuts at *
      rw [hc, Nat.add_comm 1, Lib.splitB_hit _ _ _ _ _ hix, Lib.splitB_hit _ _ _ _ _ hix, ih]
theorem cuts_full_len (b : UInt8) (s : ByteArray) : (cuts b (manyB b s) s).length = manyB b s + 1 := Lib.splitB_all ⟨#[b]⟩ (Nat.le_refl 1) 0 _ s rfl
theorem cuts_len_few (b : UInt8) : ∀ (k : Nat) (s : ByteArray), k ≤ manyB b s → (cuts b k s).length = k + 1
  | 0, s, h => rfl
  | k + 1, s, h => by
    rcases Lib.indexB_cases s ⟨#[b]⟩ with hix | ⟨i, hix, hroom⟩
    · have := Lib.countB_miss s ⟨#[b]⟩ hix
      unfold manyB at h
      omega
    · have hc := Lib.countB_hit s ⟨#[b]⟩ i (Nat.le_refl 1) hix
      have ih := cuts_len_few b k (s.extract (i + (⟨#[b]⟩ : ByteArray).size) s.size) (by unfold manyB at h ⊢; omega)
      unfold cuts at *
      rw [Lib.splitB_hit _ _ _ _ _ hix, List.length_cons, ih]
theorem join_cons (x : List UInt8) (r : List (List UInt8)) (sep : List UInt8) (h : 0 < r.length) : Lib.join (x :: r) sep = x ++ sep ++ Lib.join r sep := by
  match r, h with
  | y :: r, _ => exact join_two x y r sep
theorem join_cuts (b : UInt8) : ∀ (k : Nat) (s : ByteArray), Lib.join ((cuts b k s).map (·.data.toList)) [b] = s.data.toList
  | 0, s => by rw [cuts_zero]; exact Lib.join_one _ _
  | k + 1, s => by
    by_cases hex : ∃ i, i < s.size ∧ byteAt s i = (b.toNat : Int)
    · have hmin : ∃ i, i < s.size ∧ byteAt s i = (b.toNat : Int) ∧ ∀ j, j < i → byteAt s j ≠ (b.toNat : Int) := by
        obtain ⟨i, hi⟩ := hex
        induction i using Nat.strongRecOn with
        | ind i ih =>
          by_cases h : ∃ j, j < i ∧ byteAt s j = (b.toNat : Int)
          · obtain ⟨j, hj, hb⟩ := h
            exact ih j hj ⟨by omega, hb⟩
          · exact ⟨i, hi.1, hi.2, fun j hj e => h ⟨j, hj, e⟩⟩
      obtain ⟨i, hi, hb, hn⟩ := hmin
      have h := cuts_hit s b k 0 i (Nat.zero_le _) hi hb (fun j _ hj => hn j hj)
      rw [extract_all] at h
      have ih := join_cuts b k (s.extract (i + 1) s.size)
      rw [h, List.map_cons, join_cons _ _ _ (by simpa using cuts_pos _ _ _), ih, Lib.extract_to_end, Lib.extract_data]
      have hl : i < s.data.toList.length := by simpa using hi
      have hsi := (byteAt_some s i b hi).1 hb
      rw [List.getElem?_eq_getElem hl] at hsi
      have hd := List.drop_eq_getElem_cons hl
      rw [Option.some.inj hsi] at hd
      simp only [List.drop_zero, Nat.sub_zero, List.append_assoc, List.cons_append, List.nil_append]
      rw [← hd, List.take_append_drop]
    · have h := cuts_miss s b (k + 1) 0 (Nat.zero_le _) (fun j _ hj e => hex ⟨j, hj, e⟩)
      rw [extract_all] at h
      rw [h]
      exact Lib.join_one _ _
end Go.Proofs.YtbifagdcnpnpjaaGreat

/- spec.l1Dec writes a number in decimals. -/
namespace Go.Proofs.YtbifagdcnpnpjaaGreat
open Go.RowKit

def digD (k : Nat) : UInt8 := UInt8.ofNat (48 + k)
def decS (n : Nat) : ByteArray := ⟨(Lib.decDigits n).toArray⟩
theorem decS_small (n : Nat) (h : n < 10) : decS n = ⟨#[digD n]⟩ := by unfold decS; rw [Lib.decDigits_one h]; rfl
theorem decS_big (n : Nat) (h : ¬ n < 10) : decS n = decS (n / 10) ++ ⟨#[digD (n % 10)]⟩ := by
  unfold decS
  rw [Lib.decDigits, dif_neg h]
  apply ByteArray.ext
  simp [digD]
theorem decS_size (n : Nat) (h : n ≤ 999999999) : (decS n).size ≤ 20 := by
  have h1 : (decS n).size = (Lib.decDigits n).length := by simp [decS, ByteArray.size]
  rw [h1, Lib.decDigits_length]
  exact Lib.nDigits_le20 n (by omega)
theorem dig_toNat (k : Nat) (h : k < 10) : ((digD k).toNat : Int) = 48 + (k : Int) := by
  unfold digD
  rw [UInt8.toNat_ofNat']
  omega
/-- A slice of one byte as a string. -/
theorem back_one (W : World) (B C k : Nat) (hk : k < 10) (h : W.cell? ⟨B, 0, none⟩ = some (.int .u8 (48 + (k : Int)))) :
    (convert 150 9 (.slice (some ⟨B, 0, none⟩) 1 C)).run Tryz.prog W = .ok (.string ⟨#[digD k]⟩) W := by
  have hb := run_convert_bytes_back (P := Tryz.prog) W 150 9 5 ⟨B, 0, none⟩ C [digD k] Tryz.underlying150 Tryz.underlying5 Tryz.underlying9 (by
    intro i hi
    have hi0 : i = 0 := by simpa using hi
    subst hi0
    rw [addr_add0, h]
    simp [dig_toNat k hk])
  simpa using hb

end Go.Proofs.YtbifagdcnpnpjaaGreat

/- Figures: l1Figures and figuresGet read the same numbers; a number in decimals is read back. -/
namespace Go.Proofs.YtbifagdcnpnpjaaGreat
open Go.RowKit
set_option linter.unusedVariables false

/-- The number that the first k figures are. -/
def figN (s : ByteArray) : Nat → Nat
  | 0 => 0
  | k + 1 => 10 * figN s k + (byteAt s k - 48).toNat
def figsTo (s : ByteArray) (k : Nat) : Bool := allTo (fun j => figureB (byteAt s j)) k
def figB (s : ByteArray) : Bool := decide (1 ≤ s.size) && decide (s.size ≤ 9) && !(decide (1 < s.size) && decide (byteAt s 0 = 48)) && figsTo s s.size
def numB (s : ByteArray) : Nat := figN s s.size
theorem figureB_iff (n : Int) : figureB n = true ↔ 48 ≤ n ∧ n ≤ 57 := by simp [figureB]
theorem figN_bd (s : ByteArray) : ∀ k, figsTo s k = true → figN s k < 10 ^ k
  | 0, _ => by simp [figN]
  | k + 1, h => by
    unfold figsTo at h
    simp only [allTo, Bool.and_eq_true, figureB_iff] at h
    have ih := figN_bd s k h.1
    simp only [figN, Nat.pow_succ]
    omega
theorem figB_parts (s : ByteArray) (h : figB s = true) : 1 ≤ s.size ∧ s.size ≤ 9 ∧ (1 < s.size → byteAt s 0 ≠ 48) ∧ figsTo s s.size = true := by
  simp only [figB, Bool.and_eq_true, decide_eq_true_eq, Bool.not_eq_true', Bool.and_eq_false_iff, decide_eq_false_iff_not] at h
  obtain ⟨⟨⟨h1, h2⟩, h3⟩, h4⟩ := h
  exact ⟨h1, h2, fun h => by rcases h3 with h3 | h3 <;> omega, h4⟩
theorem figsTo_at {s : ByteArray} {k j : Nat} (h : figsTo s k = true) (hj : j < k) : 48 ≤ byteAt s j ∧ byteAt s j ≤ 57 := (figureB_iff _).1 ((allTo_iff _ _).1 h j hj)
theorem figsTo_le {s : ByteArray} {k j : Nat} (h : figsTo s k = true) (hj : j ≤ k) : figsTo s j = true := (allTo_iff _ _).2 fun i hi => (allTo_iff _ _).1 h i (by omega)
theorem numB_bd (s : ByteArray) (h : figB s = true) : numB s ≤ 999999999 := by
  obtain ⟨h1, h2, _, h4⟩ := figB_parts s h
  have := figN_bd s s.size h4
  have h9 : 10 ^ s.size ≤ 10 ^ 9 := Nat.pow_le_pow_right (by omega) h2
  unfold numB
  omega
theorem digD_byte (s : ByteArray) (k : Nat) (hk : k < s.size) (h : 48 ≤ byteAt s k ∧ byteAt s k ≤ 57) : s.data.toList[k]? = some (digD (byteAt s k - 48).toNat) := by
  rw [← byteAt_some s k _ hk, dig_toNat _ (by omega)]
  omega
theorem figN_pos (s : ByteArray) (h0 : byteAt s 0 ≠ 48) : ∀ k, figsTo s (k + 1) = true → 1 ≤ figN s (k + 1)
  | 0, h => by have := figsTo_at h (j := 0) (by omega); simp only [figN]; omega
  | k + 1, h => by have := figN_pos s h0 k (figsTo_le h (by omega)); rw [figN]; omega
theorem extract_snoc (s : ByteArray) (k : Nat) (b : UInt8) (hk : k < s.size) (h : s.data.toList[k]? = some b) : s.extract 0 (k + 1) = s.extract 0 k ++ ⟨#[b]⟩ := by
  apply ba_ext
  have hl : k < s.data.toList.length := by simpa using hk
  rw [ByteArray.data_append, Array.toList_append, Lib.extract_data, Lib.extract_data]
  simp only [List.drop_zero, Nat.sub_zero]
  rw [List.take_add_one, h]
  rfl
theorem dec_back_to (s : ByteArray) (h0 : 1 < s.size → byteAt s 0 ≠ 48) : ∀ k, k < s.size → figsTo s (k + 1) = true → decS (figN s (k + 1)) = s.extract 0 (k + 1)
  | 0, hk, h => by
    have hb := figsTo_at h (j := 0) (by omega)
    rw [extract_snoc s 0 _ hk (digD_byte s 0 hk hb), decS_small _ (by simp only [figN]; omega)]
    simp only [figN, Nat.mul_zero, Nat.zero_add]
    apply ba_ext
    rw [ByteArray.data_append, Array.toList_append, Lib.extract_data]
    simp
  | k + 1, hk, h => by
    have hb := figsTo_at h (j := k + 1) (by omega)
    have ih := dec_back_to s h0 k (by omega) (figsTo_le h (by omega))
    have hp := figN_pos s (h0 (by omega)) k (figsTo_le h (by omega))
    rw [extract_snoc s (k + 1) _ hk (digD_byte s (k + 1) hk hb), ← ih]
    have e : figN s (k + 1 + 1) = 10 * figN s (k + 1) + (byteAt s (k + 1) - 48).toNat := rfl
    rw [decS_big _ (by omega), e, show (10 * figN s (k + 1) + (byteAt s (k + 1) - 48).toNat) / 10 = figN s (k + 1) from by omega, show (10 * figN s (k + 1) + (byteAt s (k + 1) - 48).toNat) % 10 = (byteAt s (k + 1) - 48).toNat from by omega]
theorem dec_back (s : ByteArray) (h : figB s = true) : decS (numB s) = s := by
  obtain ⟨h1, h2, h3, h4⟩ := figB_parts s h
  have := dec_back_to s h3 (s.size - 1) (by omega) (by rw [show s.size - 1 + 1 = s.size from by omega]; exact h4)
  rw [show s.size - 1 + 1 = s.size from by omega, extract_all] at this
  exact this

def figR (s : ByteArray) : Int := if figB s then (numB s : Int) else -1
theorem figR_no {s : ByteArray} (h : figB s = false) : figR s = -1 := by unfold figR; rw [h]; rfl
theorem figR_yes {s : ByteArray} (h : figB s = true) : figR s = (numB s : Int) := by unfold figR; rw [h]; rfl
theorem figB_no_at {s : ByteArray} {k : Nat} (hk : k < s.size) (h : byteAt s k < 48 ∨ 57 < byteAt s k) : figB s = false := by
  have : figsTo s s.size = false := allTo_false _ _ k hk (by simp only [figureB]; rcases h with h | h <;> simp <;> omega)
  simp [figB, this]

set_option maxHeartbeats 1000000 in
theorem l1Figures_any (s : ByteArray) (w : World) (hs : s.size ≤ 1048576) :
    Calls Tryz.prog 128 #[.string s] w fun e w' => e = .returned (.int .i64 (figR s)) ∧ w' = w := by
  go_enter Tryz.func128, Tryz.ntmps128
  go_wp2
  go_loop [3, 4] (fun n i => ∃ k : Nat, k ≤ s.size ∧ k ≤ 9 ∧ i = .int .i64 k ∧ n = .int .i64 (figN s k) ∧ figsTo s k = true) (fun _ i => s.size - (intOf i).toNat)
  case atStart => exact ⟨0, Nat.zero_le _, Nat.zero_le _, rfl, rfl, rfl⟩
  case round =>
    obtain ⟨k, hk, hk9, rfl, rfl, hf⟩ := hrel
    have HF : Hid (figsTo s k = true) := hf
    have hbd0 := figN_bd s k hf
    have hp9 : 10 ^ k ≤ 10 ^ 9 := Nat.pow_le_pow_right (by omega) hk9
    have hbd : figN s k < 1000000000 := by omega
    clear hf hbd0 hp9
    by_cases hlt : k < s.size
    · have hbt := byteAt_eq s k hlt
      have HBT : Hid (byteAt s k = ((s[k]'hlt).toNat : Int)) := hbt
      have hbb := byteAt_bd s k
      rw [hbt] at hbb
      clear hbt
      by_cases h1 : ((s[k]'hlt).toNat : Int) < 48
      · go_wp2
        go_ret
        exact ⟨ret_int (by rw [figR_no (figB_no_at hlt (by rw [HBT.out]; omega))]), rfl⟩
      · by_cases h2 : 57 < ((s[k]'hlt).toNat : Int)
        · go_wp2
          go_ret
          exact ⟨ret_int (by rw [figR_no (figB_no_at hlt (by rw [HBT.out]; omega))]), rfl⟩
        · by_cases h3 : 9 ≤ k
          · have h3' : 9 ≤ (k : Int) := by omega
            go_wp2
            go_ret
            exact ⟨ret_int (by rw [figR_no (by simp [figB]; omega)]), rfl⟩
          · have h3' : ¬ 9 ≤ (k : Int) := by omega
            generalize hfn : figN s k = fn at *
            have HFN : Hid (figN s (k + 1) = 10 * fn + (((s[k]'hlt).toNat : Int) - 48).toNat) := by unfold Hid; rw [figN, HBT.out, hfn]
            go_wp2
            go_round
            case rel => exact ⟨k + 1, by omega, by omega, by go_num, by rw [HFN.out]; go_num, allTo_snoc _ _ HF.out (by rw [HBT.out]; exact (figureB_iff _).2 ⟨by omega, by omega⟩)⟩
            case measure => simp [intOf]; omega
    · have hks : k = s.size := by omega
      subst hks
      by_cases h0 : s.size = 0
      · go_wp2
        go_ret
        exact ⟨ret_int (by rw [figR_no (by simp [figB, h0])]), rfl⟩
      · have h0' : ¬ (s.size : Int) = 0 := by omega
        have hp : 0 < s.size := by omega
        have hbt := byteAt_eq s 0 hp
        have HBT : Hid (byteAt s 0 = ((s[0]'hp).toNat : Int)) := hbt
        clear hbt
        by_cases h1 : 1 < s.size
        · have h1' : 1 < (s.size : Int) := by omega
          by_cases h2 : ((s[0]'hp).toNat : Int) = 48
          · have h2b : ((((s[0]'hp).toNat : Int) == 48) = true) := by simpa using h2
            have h0b : (((s.size : Int) == 0) = false) := by simpa using h0'
            go_wp2
            go_ret
            exact ⟨ret_int (by rw [figR_no (by simp [figB, h1, HBT.out, h2])]), rfl⟩
          · have HY : Hid (figB s = true) := by unfold Hid; simp only [figB, Bool.and_eq_true, decide_eq_true_eq, Bool.not_eq_true', Bool.and_eq_false_iff, decide_eq_false_iff_not]; exact ⟨⟨⟨by omega, by omega⟩, .inr (by rw [HBT.out]; exact h2)⟩, HF.out⟩
            have h2b : ((((s[0]'hp).toNat : Int) == 48) = false) := by simpa using h2
            have h0b : (((s.size : Int) == 0) = false) := by simpa using h0'
            go_wp2
            go_ret
            exact ⟨ret_int (by rw [figR_yes HY.out]; rfl), rfl⟩
        · have h1' : ¬ 1 < (s.size : Int) := by omega
          have HY : Hid (figB s = true) := by unfold Hid; simp only [figB, Bool.and_eq_true, decide_eq_true_eq, Bool.not_eq_true', Bool.and_eq_false_iff, decide_eq_false_iff_not]; exact ⟨⟨⟨by omega, by omega⟩, .inl (by omega)⟩, HF.out⟩
          go_wp2
          go_ret
          exact ⟨ret_int (by rw [figR_yes HY.out]; rfl), rfl⟩
end Go.Proofs.YtbifagdcnpnpjaaGreat

/- Pieces of a text that is cut: how they are told, how long they are. -/
namespace Go.Proofs.YtbifagdcnpnpjaaGreat
open Go.RowKit
set_option linter.unusedVariables false

def pat (ps : List ByteArray) (i : Nat) : ByteArray := ps.getD i ⟨#[]⟩
theorem pat_get (ps : List ByteArray) (i : Nat) (h : i < ps.length) : pat ps i = ps[i] := by unfold pat; rw [List.getD_eq_getElem?_getD, List.getElem?_eq_getElem h]; rfl
theorem cuts_size (b : UInt8) : ∀ (k : Nat) (s : ByteArray), ∀ p ∈ cuts b k s, p.size ≤ s.size
  | 0, s, p, h => by rw [cuts_zero] at h; simp at h; rw [h]; exact Nat.le_refl _
  | k + 1, s, p, h => by
    unfold cuts at h
    rcases Lib.indexB_cases s ⟨#[b]⟩ with hix | ⟨i, hix, hroom⟩
    · rw [Lib.splitB_miss _ _ _ _ hix] at h
      simp at h
      rw [h]
      exact Nat.le_refl _
    · rw [Lib.splitB_hit _ _ _ _ _ hix, List.mem_cons] at h
      rcases h with rfl | h
      · rw [ByteArray.size_extract]; omega
      · have := cuts_size b k _ p h
        rw [ByteArray.size_extract] at this
        omega
theorem pat_size (b : UInt8) (k : Nat) (s : ByteArray) (i : Nat) (h : i < (cuts b k s).length) : (pat (cuts b k s) i).size ≤ s.size := by
  rw [pat_get _ _ h]
  exact cuts_size b k s _ (List.getElem_mem h)
/-- Is a text cut in two? -/
def two (b : UInt8) (p : ByteArray) : Bool := decide (2 ≤ (cuts b 1 p).length)
theorem two_no {b : UInt8} {p : ByteArray} (h : two b p = false) : cuts b 1 p = [p] ∧ (⟨(Lib.cut p.data.toList [b]).1.toArray⟩ : ByteArray) = p ∧ (⟨(Lib.cut p.data.toList [b]).2.1.toArray⟩ : ByteArray) = ⟨#[]⟩ ∧ (Lib.cut p.data.toList [b]).2.2 = false := by
  unfold two cuts at h
  rcases Lib.indexB_cases p ⟨#[b]⟩ with hix | ⟨i, hix, hroom⟩
  · exact ⟨Lib.splitB_miss _ _ _ _ hix, Lib.cutB_miss p ⟨#[b]⟩ hix⟩
  · rw [Lib.splitB_hit _ _ _ _ _ hix] at h
    simp [Lib.splitB] at h
theorem two_yes {b : UInt8} {p : ByteArray} (h : two b p = true) : cuts b 1 p = [pat (cuts b 1 p) 0, pat (cuts b 1 p) 1] ∧ (⟨(Lib.cut p.data.toList [b]).1.toArray⟩ : ByteArray) = pat (cuts b 1 p) 0 ∧ (⟨(Lib.cut p.data.toList [b]).2.1.toArray⟩ : ByteArray) = pat (cuts b 1 p) 1 ∧ (Lib.cut p.data.toList [b]).2.2 = true := by
  unfold two at h
  rcases Lib.indexB_cases p ⟨#[b]⟩ with hix | ⟨i, hix, hroom⟩
  · unfold cuts at h
    rw [Lib.splitB_miss _ _ _ _ hix] at h
    simp at h
  · have e : cuts b 1 p = [p.extract 0 (i + 0), p.extract (i + (⟨#[b]⟩ : ByteArray).size) p.size] := by
      unfold cuts
      rw [Lib.splitB_hit _ _ _ _ _ hix]
      rfl
    rw [e]
    exact ⟨rfl, Lib.cutB_hit p ⟨#[b]⟩ i hix⟩
theorem two_join {b : UInt8} {p : ByteArray} (h : two b p = true) : p = pat (cuts b 1 p) 0 ++ ⟨#[b]⟩ ++ pat (cuts b 1 p) 1 := by
  have hj := join_cuts b 1 p
  rw [(two_yes h).1] at hj
  apply ba_ext
  rw [← hj, List.map_cons, List.map_cons, List.map_nil, join_two, Lib.join_one, ByteArray.data_append, Array.toList_append, ByteArray.data_append, Array.toList_append]
theorem two_len {b : UInt8} {p : ByteArray} (h : two b p = true) : (cuts b 1 p).length = 2 := by rw [(two_yes h).1]; rfl
theorem two_len1 {b : UInt8} {p : ByteArray} (h : two b p = false) : (cuts b 1 p).length = 1 := by rw [(two_no h).1]; rfl
end Go.Proofs.YtbifagdcnpnpjaaGreat

/- Which documents are ok: plain mathematics. -/
namespace Go.Proofs.YtbifagdcnpnpjaaGreat
open Go.RowKit
set_option linter.unusedVariables false

def below0 (s : ByteArray) : Bool := decide (0 < s.size) && decide (byteAt s 0 = 45)
/-- A text is a number. -/
def numT (s : ByteArray) : Bool := if below0 s then figB (s.extract 1 s.size) && decide (numB (s.extract 1 s.size) ≠ 0) else figB s
def tparts (s : ByteArray) : List ByteArray := cuts 44 (manyB 44 s) s
/-- A text is tags. -/
def tagT (s : ByteArray) : Bool := (tparts s).all nameI && decide ((tparts s).length ≤ 4)
def cellT (k : Int) (s : ByteArray) : Bool := if k = 2 then numT s else if k = 3 then tagT s else textB s
def dcelOk (fs : List Fld) (cs : List Cel) (i : Nat) : Bool := decide (fidx fs (cat cs i).name < fs.length) && cellT (fat fs (fidx fs (cat cs i).name)).kind (cat cs i).text
def docOkB (fs : List Fld) (key : ByteArray) (cs : List Cel) : Bool := fieldsB fs && formB key cs && allTo (dcelOk fs cs) cs.length

theorem docOk_no {fs : List Fld} {key : ByteArray} {cs : List Cel} {k : Nat} (hk : k < cs.length) (h : dcelOk fs cs k = false) : docOkB fs key cs = false := by
  unfold docOkB
  rw [allTo_false _ _ k hk h, Bool.and_false]
/-- As the model tells a number. -/
def numS (s : ByteArray) : Bool := if (decide (1 < s.size) && decide (byteAt s 0 = 45)) then decide (0 < figR (s.extract 1 s.size)) else decide (0 ≤ figR s)
theorem figB_dash {s : ByteArray} (h0 : 0 < s.size) (h : byteAt s 0 = 45) : figB s = false := figB_no_at h0 (by omega)
theorem num_same (s : ByteArray) : numS s = numT s := by
  unfold numS numT below0
  by_cases h0 : 0 < s.size
  · by_cases hb : byteAt s 0 = 45
    · rw [show (decide (0 < s.size) && decide (byteAt s 0 = 45)) = true from by simp [h0, hb]]
      by_cases h1 : 1 < s.size
      · rw [show (decide (1 < s.size) && decide (byteAt s 0 = 45)) = true from by simp [h1, hb]]
        simp only [if_true]
        cases hf : figB (s.extract 1 s.size) with
        | false => rw [figR_no hf]; rfl
        | true =>
          rw [figR_yes hf, Bool.true_and]
          exact decide_eq_decide.2 (by omega)
      · rw [show (decide (1 < s.size) && decide (byteAt s 0 = 45)) = false from by simp [h1]]
        simp only [if_true, Bool.false_eq_true, if_false]
        have hz : (s.extract 1 s.size).size = 0 := by rw [ByteArray.size_extract]; omega
        have hf : figB (s.extract 1 s.size) = false := by unfold figB; rw [hz]; rfl
        rw [hf, figR_no (figB_dash h0 hb)]
        rfl
    · rw [show (decide (0 < s.size) && decide (byteAt s 0 = 45)) = false from by simp [hb], show (decide (1 < s.size) && decide (byteAt s 0 = 45)) = false from by simp [hb]]
      simp only [Bool.false_eq_true, if_false]
      cases hf : figB s with
      | false => rw [figR_no hf]; rfl
      | true => rw [figR_yes hf]; simp
  · rw [show (decide (0 < s.size) && decide (byteAt s 0 = 45)) = false from by simp [h0], show (decide (1 < s.size) && decide (byteAt s 0 = 45)) = false from by simp; omega]
    simp only [Bool.false_eq_true, if_false]
    cases hf : figB s with
    | false => rw [figR_no hf]; rfl
    | true => rw [figR_yes hf]; simp
/-- As the model tells a cell. -/
def cellS (k : Int) (s : ByteArray) : Bool := textB s && (k == 1 || (k == 2 && numS s) || (k == 3 && tagT s))
theorem cell_same {k : Int} {s : ByteArray} (hk : k = 1 ∨ k = 2 ∨ k = 3) (ht : textB s = true) : cellS k s = cellT k s := by
  unfold cellS cellT
  rw [ht, num_same]
  rcases hk with rfl | rfl | rfl <;> simp
end Go.Proofs.YtbifagdcnpnpjaaGreat

/- figuresGet reads a number from 0 to NumMax. -/
namespace Go.Proofs.YtbifagdcnpnpjaaGreat
open Go.RowKit
set_option linter.unusedVariables false

def figG (s : ByteArray) : Int := if figB s then (numB s : Int) else 0
theorem figG_no {s : ByteArray} (h : figB s = false) : figG s = 0 := by unfold figG; rw [h]; rfl
theorem figG_yes {s : ByteArray} (h : figB s = true) : figG s = (numB s : Int) := by unfold figG; rw [h]; rfl
theorem ret_fig {n n' : Int} {b b' : Bool} (h1 : n = n') (h2 : b = b') : Ending.returned (.tuple #[.int .i64 n, .bool b]) = .returned (.tuple #[.int .i64 n', .bool b']) := by rw [h1, h2]
theorem size_empty (s : ByteArray) (h : s.size = 0) : s = ⟨#[]⟩ := ba_ext (by
  have h' : s.data.toList.length = 0 := by simpa using h
  rw [List.eq_nil_of_length_eq_zero h'])
theorem size_noEmpty (s : ByteArray) (h : s.size ≠ 0) : s.toList.isEmpty = false := by
  rw [ByteArray.toList_eq]
  cases e : s.data.toList with
  | nil =>
    have h' : s.data.toList.length = 0 := by rw [e]; rfl
    exact absurd (by simpa using h') h
  | cons a b => rfl

set_option maxHeartbeats 1000000 in
theorem figuresGet_any (s : ByteArray) (w : World) (hs : s.size ≤ maxLen) :
    Calls Tryz.prog 187 #[.string s] w fun e w' => e = .returned (.tuple #[.int .i64 (figG s), .bool (figB s)]) ∧ w' = w := by
  unfold maxLen at hs
  by_cases h0 : s.size = 0
  · have hn : figB s = false := by simp [figB, h0]
    rw [figG_no hn, hn]
    have he := size_empty s h0
    subst he
    clear hn h0 hs
    go_enter Tryz.func187, Tryz.ntmps187
    go_wp2
    go_ret2
    exact ⟨rfl, rfl⟩
  have he := size_noEmpty s h0
  have hp : 0 < s.size := by omega
  by_cases h9 : 9 < s.size
  · have hn : figB s = false := by simp [figB]; omega
    rw [figG_no hn, hn]
    have h9' : 9 < (s.size : Int) := by omega
    clear hn
    go_enter Tryz.func187, Tryz.ntmps187
    go_wp2
    go_ret2
    exact ⟨rfl, rfl⟩
  have h9' : ¬ 9 < (s.size : Int) := by omega
  have hbt := byteAt_eq s 0 hp
  have HBT : Hid (byteAt s 0 = ((s[0]'hp).toNat : Int)) := hbt
  clear hbt
  by_cases hz : 1 < s.size ∧ ((s[0]'hp).toNat : Int) = 48
  · obtain ⟨h1, h2⟩ := hz
    have hn : figB s = false := by simp [figB, h1, HBT.out, h2]
    rw [figG_no hn, hn]
    have h1' : 1 < (s.size : Int) := by omega
    have h2b : ((((s[0]'hp).toNat : Int) == 48) = true) := by simpa using h2
    clear hn
    go_enter Tryz.func187, Tryz.ntmps187
    go_wp2
    go_ret2
    exact ⟨rfl, rfl⟩
  have HZ : Hid (¬ (1 < s.size ∧ byteAt s 0 = 48)) := by unfold Hid; rw [HBT.out]; exact hz
  have hgo : ((1 < (s.size : Int)) ∧ ((((s[0]'hp).toNat : Int) == 48) = false)) ∨ ¬ 1 < (s.size : Int) := by
    by_cases h1 : 1 < s.size
    · left
      exact ⟨by omega, by rw [beq_eq_false_iff_ne]; exact fun h2 => hz ⟨h1, h2⟩⟩
    · right
      omega
  clear hz HBT
  rcases hgo with ⟨h1', h2b⟩ | h1'
  all_goals
    go_enter Tryz.func187, Tryz.ntmps187
    go_wp2
    go_loop [4, 25] (fun n i => ∃ k : Nat, k ≤ s.size ∧ i = .int .i64 k ∧ n = .int .i64 (figN s k) ∧ figsTo s k = true) (fun _ i => s.size - (intOf i).toNat)
    case atStart => exact ⟨0, Nat.zero_le _, rfl, rfl, rfl⟩
    case round =>
      obtain ⟨k, hk, rfl, rfl, hf⟩ := hrel
      have HF : Hid (figsTo s k = true) := hf
      have hbd0 := figN_bd s k hf
      have hp9 : 10 ^ k ≤ 10 ^ 9 := Nat.pow_le_pow_right (by omega) (by omega)
      have hbd : figN s k < 1000000000 := by omega
      clear hf hbd0 hp9
      by_cases hlt : k < s.size
      · have hbt := byteAt_eq s k hlt
        have HBT : Hid (byteAt s k = ((s[k]'hlt).toNat : Int)) := hbt
        have hbb := byteAt_bd s k
        rw [hbt] at hbb
        clear hbt
        cases hfg : figureB ((s[k]'hlt).toNat : Int) with
        | false =>
          have hn : figB s = false := by
            refine figB_no_at hlt ?_
            rw [HBT.out]
            simp only [figureB, Bool.and_eq_false_iff, decide_eq_false_iff_not] at hfg
            omega
          have HNO : Hid (figB s = false) := hn
          clear hn
          go_wp2_with (go_at_call 134; refine (isFigure_any _ _).mono ?_; rintro e w' ⟨rfl, rfl⟩)
          go_ret2
          exact ⟨ret_fig (figG_no HNO.out).symm HNO.out.symm, rfl⟩
        | true =>
          have h48 := (figureB_iff _).1 hfg
          generalize hfn : figN s k = fn at *
          have HFN : Hid (figN s (k + 1) = 10 * fn + (((s[k]'hlt).toNat : Int) - 48).toNat) := by unfold Hid; rw [figN, HBT.out, hfn]
          go_wp2_with (go_at_call 134; refine (isFigure_any _ _).mono ?_; rintro e w' ⟨rfl, rfl⟩)
          go_round
          case rel => exact ⟨k + 1, by omega, by go_num, by rw [HFN.out]; go_num, allTo_snoc _ _ HF.out (by rw [HBT.out]; exact hfg)⟩
          case measure => simp [intOf]; omega
      · have hks : k = s.size := by omega
        subst hks
        have hy : figB s = true := by
          simp only [figB, Bool.and_eq_true, decide_eq_true_eq, Bool.not_eq_true', Bool.and_eq_false_iff, decide_eq_false_iff_not]
          refine ⟨⟨⟨by omega, by omega⟩, ?_⟩, HF.out⟩
          by_cases h1 : 1 < s.size
          · exact .inr fun h => HZ.out ⟨h1, h⟩
          · exact .inl h1
        have HYE : Hid (figB s = true) := hy
        clear hy
        go_wp2
        go_ret2
        exact ⟨ret_fig (figG_yes HYE.out).symm HYE.out.symm, rfl⟩
end Go.Proofs.YtbifagdcnpnpjaaGreat

/- The contracts of Go's own library at this program: each is the kit's theorem, applied. -/
namespace Go.Proofs
open Go.Shelf
def Tryz.lays103_ren : Go.Shelf.Ren := ⟨fun | 103 => 186 | 210 => 188 | 206 => 126 | n => n, fun | 9 => 9 | 4 => 4 | 24 => 221 | 3 => 3 | n => n, fun | n => n⟩
theorem Tryz.lays103 : Go.Proofs.Lays.n103 Tryz.prog Tryz.lays103_ren := {
  mixed := by kernel_rfl
  f103 := Tryz.func186.trans (congrArg some (by kernel_rfl))
  f206 := Tryz.func126.trans (congrArg some (by kernel_rfl))
  f210 := Tryz.func188.trans (congrArg some (by kernel_rfl))
  t3 := Tryz.underlying3
  a3 := Tryz.isAgg3
  z3 := Tryz.sizeOf3
  v3 := Tryz.zeroValue3
  t4 := Tryz.underlying4
  a4 := Tryz.isAgg4
  z4 := Tryz.sizeOf4
  v4 := Tryz.zeroValue4
  t9 := Tryz.underlying9
  a9 := Tryz.isAgg9
  z9 := Tryz.sizeOf9
  v9 := Tryz.zeroValue9
  t24 := Tryz.underlying221
  a24 := Tryz.isAgg221
  z24 := Tryz.sizeOf221
  v24 := Tryz.zeroValue221 }
open Go.RowKit in
theorem Tryz.strings_CutPrefix (s p : ByteArray) (w : World) :
    Calls Tryz.prog 186 #[.string s, .string p] w fun e w' => e = .returned (.tuple #[.string ⟨(Lib.trimPrefix s.data.toList p.data.toList).toArray⟩, .bool (Lib.hasPrefix s.data.toList p.data.toList)]) ∧ w' = w := Any.strings_CutPrefix Tryz.lays103 s p w
def Tryz.lays99_ren : Go.Shelf.Ren := ⟨fun | 99 => 106 | 206 => 126 | n => n, fun | 9 => 9 | 4 => 4 | 3 => 3 | n => n, fun | n => n⟩
theorem Tryz.lays99 : Go.Proofs.Lays.n99 Tryz.prog Tryz.lays99_ren := {
  mixed := by kernel_rfl
  f99 := Tryz.func106.trans (congrArg some (by kernel_rfl))
  f206 := Tryz.func126.trans (congrArg some (by kernel_rfl))
  t3 := Tryz.underlying3
  a3 := Tryz.isAgg3
  z3 := Tryz.sizeOf3
  v3 := Tryz.zeroValue3
  t4 := Tryz.underlying4
  a4 := Tryz.isAgg4
  z4 := Tryz.sizeOf4
  v4 := Tryz.zeroValue4
  t9 := Tryz.underlying9
  a9 := Tryz.isAgg9
  z9 := Tryz.sizeOf9
  v9 := Tryz.zeroValue9 }
open Go.RowKit Go.Lib in
theorem Tryz.strings_HasPrefix (s p : ByteArray) (w : World) :
    Calls Tryz.prog 106 #[.string s, .string p] w fun e w' => e = .returned (.bool (Lib.hasPrefix s.data.toList p.data.toList)) ∧ w' = w := Any.strings_HasPrefix Tryz.lays99 s p w
def Tryz.lays146_ren : Go.Shelf.Ren := ⟨fun | 146 => 190 | 221 => 191 | 268 => 192 | 138 => 193 | 143 => 194 | 195 => 195 | 197 => 196 | 218 => 197 | 219 => 198 | 260 => 199 | 217 => 200 | 225 => 201 | 224 => 202 | 267 => 203 | 266 => 204 | 314 => 205 | n => n, fun | 9 => 9 | 31 => 56 | 3 => 3 | 4 => 4 | 0 => 0 | 105 => 225 | 21 => 21 | 5 => 5 | 46 => 199 | 119 => 229 | 139 => 232 | 138 => 231 | 146 => 233 | 51 => 212 | n => n, fun | 1 => 0 | 3 => 1 | 4 => 2 | n => n⟩
theorem Tryz.lays146 : Go.Proofs.Lays.n146 Tryz.prog Tryz.lays146_ren := {
  mixed := by kernel_rfl
  f138 := Tryz.func193.trans (congrArg some (by kernel_rfl))
  f143 := Tryz.func194.trans (congrArg some (by kernel_rfl))
  f146 := Tryz.func190.trans (congrArg some (by kernel_rfl))
  f195 := Tryz.func195.trans (congrArg some (by kernel_rfl))
  f197 := Tryz.func196.trans (congrArg some (by kernel_rfl))
  f217 := Tryz.func200.trans (congrArg some (by kernel_rfl))
  f218 := Tryz.func197.trans (congrArg some (by kernel_rfl))
  f219 := Tryz.func198.trans (congrArg some (by kernel_rfl))
  f221 := Tryz.func191.trans (congrArg some (by kernel_rfl))
  f224 := Tryz.func202.trans (congrArg some (by kernel_rfl))
  f225 := Tryz.func201.trans (congrArg some (by kernel_rfl))
  f260 := Tryz.func199.trans (congrArg some (by kernel_rfl))
  f266 := Tryz.func204.trans (congrArg some (by kernel_rfl))
  f267 := Tryz.func203.trans (congrArg some (by kernel_rfl))
  f268 := Tryz.func192.trans (congrArg some (by kernel_rfl))
  f314 := Tryz.func205.trans (congrArg some (by kernel_rfl))
  t0 := Tryz.underlying0
  a0 := Tryz.isAgg0
  z0 := Tryz.sizeOf0
  v0 := Tryz.zeroValue0
  t3 := Tryz.underlying3
  a3 := Tryz.isAgg3
  z3 := Tryz.sizeOf3
  v3 := Tryz.zeroValue3
  t4 := Tryz.underlying4
  a4 := Tryz.isAgg4
  z4 := Tryz.sizeOf4
  v4 := Tryz.zeroValue4
  t5 := Tryz.underlying5
  a5 := Tryz.isAgg5
  z5 := Tryz.sizeOf5
  v5 := Tryz.zeroValue5
  t9 := Tryz.underlying9
  a9 := Tryz.isAgg9
  z9 := Tryz.sizeOf9
  v9 := Tryz.zeroValue9
  t21 := Tryz.underlying21
  a21 := Tryz.isAgg21
  z21 := Tryz.sizeOf21
  v21 := Tryz.zeroValue21
  t31 := Tryz.underlying56
  a31 := Tryz.isAgg56
  z31 := Tryz.sizeOf56
  v31 := Tryz.zeroValue56
  t46 := Tryz.underlying199
  a46 := Tryz.isAgg199
  z46 := Tryz.sizeOf199
  v46 := Tryz.zeroValue199
  t51 := Tryz.underlying212
  a51 := Tryz.isAgg212
  z51 := Tryz.sizeOf212
  v51 := Tryz.zeroValue212
  t105 := Tryz.underlying225
  a105 := Tryz.isAgg225
  z105 := Tryz.sizeOf225
  v105 := Tryz.zeroValue225
  t119 := Tryz.underlying229
  a119 := Tryz.isAgg229
  z119 := Tryz.sizeOf229
  t138 := Tryz.underlying231
  a138 := Tryz.isAgg231
  z138 := Tryz.sizeOf231
  v138 := Tryz.zeroValue231
  t139 := Tryz.underlying232
  a139 := Tryz.isAgg232
  z139 := Tryz.sizeOf232
  v139 := Tryz.zeroValue232
  t146 := Tryz.underlying233
  a146 := Tryz.isAgg233
  z146 := Tryz.sizeOf233
  v146 := Tryz.zeroValue233
  g1 := by kernel_rfl
  g3 := by kernel_rfl
  g4 := by kernel_rfl }
open Go.RowKit Go.Lib in
theorem Tryz.strings_Split (s sep : ByteArray) (m : Int) (w : World) (hs : s.size < 4294967281) (hm : w.cell? ⟨0, 0, none⟩ = some (.int .i64 m)) (h1 : 1 ≤ sep.size) :
    Calls Tryz.prog 190 #[.string s, .string sep] w fun e w' =>
      e = .returned (.slice (some ⟨w.heap.size, 0, none⟩) (Lib.countB s sep + 1) (Lib.countB s sep + 1)) ∧ w' = w.alloc (.cells ((Lib.splitB sep 0 (Lib.countB s sep) s).map Value.string).toArray 9) := Any.strings_Split Tryz.lays146 (by kernel_rfl) s sep m w hs hm h1
def Tryz.laysM146_ren : Go.Shelf.Ren := ⟨fun | 146 => 190 | 221 => 191 | 268 => 192 | 138 => 193 | 143 => 194 | 195 => 195 | 197 => 196 | 218 => 197 | 219 => 198 | 260 => 199 | 217 => 200 | 225 => 201 | 224 => 202 | 267 => 203 | 266 => 204 | 314 => 205 | n => n, fun | 9 => 9 | 31 => 56 | 3 => 3 | 4 => 4 | 0 => 0 | 105 => 225 | 21 => 21 | 5 => 5 | 46 => 199 | 119 => 229 | 139 => 232 | 138 => 231 | 146 => 233 | 51 => 212 | n => n, fun | 1 => 0 | 3 => 1 | 4 => 2 | n => n⟩
theorem Tryz.laysM146 : Go.Proofs.LaysM.n146 Tryz.prog Tryz.laysM146_ren := {
  mixed := by kernel_rfl
  f138 := Tryz.func193.trans (congrArg some (by kernel_rfl))
  f143 := Tryz.func194.trans (congrArg some (by kernel_rfl))
  f146 := Tryz.func190.trans (congrArg some (by kernel_rfl))
  f195 := Tryz.func195.trans (congrArg some (by kernel_rfl))
  f197 := Tryz.func196.trans (congrArg some (by kernel_rfl))
  f217 := Tryz.func200.trans (congrArg some (by kernel_rfl))
  f218 := Tryz.func197.trans (congrArg some (by kernel_rfl))
  f219 := Tryz.func198.trans (congrArg some (by kernel_rfl))
  f221 := Tryz.func191.trans (congrArg some (by kernel_rfl))
  f224 := Tryz.func202.trans (congrArg some (by kernel_rfl))
  f225 := Tryz.func201.trans (congrArg some (by kernel_rfl))
  f260 := Tryz.func199.trans (congrArg some (by kernel_rfl))
  f266 := Tryz.func204.trans (congrArg some (by kernel_rfl))
  f267 := Tryz.func203.trans (congrArg some (by kernel_rfl))
  f268 := Tryz.func192.trans (congrArg some (by kernel_rfl))
  f314 := Tryz.func205.trans (congrArg some (by kernel_rfl))
  t0 := Tryz.underlying0
  a0 := Tryz.isAgg0
  z0 := Tryz.sizeOf0
  v0 := Tryz.zeroValue0
  t3 := Tryz.underlying3
  a3 := Tryz.isAgg3
  z3 := Tryz.sizeOf3
  v3 := Tryz.zeroValue3
  t4 := Tryz.underlying4
  a4 := Tryz.isAgg4
  z4 := Tryz.sizeOf4
  v4 := Tryz.zeroValue4
  t5 := Tryz.underlying5
  a5 := Tryz.isAgg5
  z5 := Tryz.sizeOf5
  v5 := Tryz.zeroValue5
  t9 := Tryz.underlying9
  a9 := Tryz.isAgg9
  z9 := Tryz.sizeOf9
  v9 := Tryz.zeroValue9
  t21 := Tryz.underlying21
  a21 := Tryz.isAgg21
  z21 := Tryz.sizeOf21
  v21 := Tryz.zeroValue21
  t31 := Tryz.underlying56
  a31 := Tryz.isAgg56
  z31 := Tryz.sizeOf56
  v31 := Tryz.zeroValue56
  t46 := Tryz.underlying199
  a46 := Tryz.isAgg199
  z46 := Tryz.sizeOf199
  v46 := Tryz.zeroValue199
  t51 := Tryz.underlying212
  a51 := Tryz.isAgg212
  z51 := Tryz.sizeOf212
  v51 := Tryz.zeroValue212
  t105 := Tryz.underlying225
  a105 := Tryz.isAgg225
  z105 := Tryz.sizeOf225
  v105 := Tryz.zeroValue225
  t119 := Tryz.underlying229
  a119 := Tryz.isAgg229
  z119 := Tryz.sizeOf229
  t138 := Tryz.underlying231
  a138 := Tryz.isAgg231
  z138 := Tryz.sizeOf231
  v138 := Tryz.zeroValue231
  t139 := Tryz.underlying232
  a139 := Tryz.isAgg232
  z139 := Tryz.sizeOf232
  v139 := Tryz.zeroValue232
  t146 := Tryz.underlying233
  a146 := Tryz.isAgg233
  z146 := Tryz.sizeOf233
  v146 := Tryz.zeroValue233
  g1 := by kernel_rfl
  g3 := by kernel_rfl
  g4 := by kernel_rfl
  i0 := by kernel_rfl
  i3 := by kernel_rfl
  i4 := by kernel_rfl
  i5 := by kernel_rfl
  i9 := by kernel_rfl
  i21 := by kernel_rfl
  i31 := by kernel_rfl
  i46 := by kernel_rfl
  i51 := by kernel_rfl
  i105 := by kernel_rfl
  i138 := by kernel_rfl
  i139 := by kernel_rfl
  i146 := by kernel_rfl
  m1 := by kernel_rfl
  s1_3 := fun w h => Go.Proofs.cell_of_shapedOpen_int (zero := #[.int .i64 0]) (t := 3) h (of_decide_eq_true (by kernel_rfl)) (by kernel_rfl) rfl (by kernel_rfl) (by kernel_rfl) Tryz.underlying3
  m3 := by kernel_rfl
  m4 := by kernel_rfl }
open Go.RowKit Go.Lib in
theorem Tryz.strings_Split_shaped (s sep : ByteArray) (w : World) (h : w.ShapedOpen Tryz.prog) (hs : s.size < 4294967281) (h1 : 1 ≤ sep.size) :
    Calls Tryz.prog 190 #[.string s, .string sep] w fun e w' =>
      e = .returned (.slice (some ⟨w.heap.size, 0, none⟩) (Lib.countB s sep + 1) (Lib.countB s sep + 1)) ∧ w' = w.alloc (.cells ((Lib.splitB sep 0 (Lib.countB s sep) s).map Value.string).toArray 9) := Any.strings_Split_shaped Tryz.laysM146 s sep w h hs h1
def Tryz.lays111_ren : Go.Shelf.Ren := ⟨fun | 111 => 140 | n => n, fun | 28 => 105 | 3 => 3 | 4 => 4 | 0 => 0 | n => n, fun | n => n⟩
theorem Tryz.lays111 : Go.Proofs.Lays.n111 Tryz.prog Tryz.lays111_ren := {
  mixed := by kernel_rfl
  f111 := Tryz.func140.trans (congrArg some (by kernel_rfl))
  t0 := Tryz.underlying0
  a0 := Tryz.isAgg0
  z0 := Tryz.sizeOf0
  v0 := Tryz.zeroValue0
  t3 := Tryz.underlying3
  a3 := Tryz.isAgg3
  z3 := Tryz.sizeOf3
  v3 := Tryz.zeroValue3
  t4 := Tryz.underlying4
  a4 := Tryz.isAgg4
  z4 := Tryz.sizeOf4
  v4 := Tryz.zeroValue4
  t28 := Tryz.underlying105
  a28 := Tryz.isAgg105
  z28 := Tryz.sizeOf105
  v28 := Tryz.zeroValue105 }
open Go.RowKit Go.Lib in
theorem Tryz.slices_Equal_int (b1 o1 n c b2 o2 m d : Nat) (xs ys : List Int) (w : World) (hx : n ≤ xs.length) (hy : m ≤ ys.length) (hbig : n ≤ 9223372036854775807) (hbig2 : m ≤ 9223372036854775807) (hc1 : ∀ j, j < xs.length → w.cell? ⟨b1, o1 + j, none⟩ = some (.int .i64 (xs.getD j 0))) (hc2 : ∀ j, j < ys.length → w.cell? ⟨b2, o2 + j, none⟩ = some (.int .i64 (ys.getD j 0))) :
    Calls Tryz.prog 140 #[.slice (some ⟨b1, o1, none⟩) n c, .slice (some ⟨b2, o2, none⟩) m d] w fun e w' => e = .returned (.bool (xs.take n == ys.take m)) ∧ ∃ q, w' = w.drewN q := Any.slices_Equal_int Tryz.lays111 b1 o1 n c b2 o2 m d xs ys w hx hy hbig hbig2 hc1 hc2
end Go.Proofs

/- strings.Split at one byte. -/
namespace Go.Proofs.YtbifagdcnpnpjaaGreat
open Go.RowKit
set_option linter.unusedVariables false

/-- The cell of internal/bytealg.MaxLen holds an int. -/
def MaxL (w : World) : Prop := ∃ m, w.cell? ⟨0, 0, none⟩ = some (.int .i64 m)
theorem MaxL.below {w w' : World} (h : MaxL w) (hb : Below w.heap.size w w') : MaxL w' := by
  obtain ⟨m, hm⟩ := h
  exact ⟨m, (hb.cell (p := ⟨0, 0, none⟩) (cell_lt hm)).trans hm⟩
theorem split_any (s : ByteArray) (b : UInt8) (w : World) (hs : s.size ≤ 1048576) (hm : MaxL w) :
    Calls Tryz.prog 190 #[.string s, .string ⟨#[b]⟩] w fun e w' => ∃ g, e = .returned (.slice (some ⟨g, 0, none⟩) (manyB b s + 1) (manyB b s + 1)) ∧ StrRow w' (some ⟨g, 0, none⟩) (cuts b (manyB b s) s) ∧ Below w.heap.size w w' := by
  obtain ⟨m, hm⟩ := hm
  refine (Tryz.strings_Split s ⟨#[b]⟩ m w (by omega) hm (Nat.le_refl 1)).mono ?_
  rintro e w' ⟨rfl, rfl⟩
  refine ⟨w.heap.size, rfl, fun hp => ⟨w.heap.size, rfl, by simp, fun i hi => ?_⟩, (Below.refl _ w).alloc (Nat.le_refl _) _⟩
  rw [World.cell?_alloc_new]
  show (((cuts b (manyB b s) s).map Value.string).toArray)[i]? = _
  rw [List.getElem?_toArray, List.getElem?_map, List.getElem?_eq_getElem hi, List.getD_eq_getElem?_getD, List.getElem?_eq_getElem hi]
  rfl
end Go.Proofs.YtbifagdcnpnpjaaGreat

/- Numbers and tags of a cell: numGet, l1Number, the contents' ok, contentOf. -/
namespace Go.Proofs.YtbifagdcnpnpjaaGreat
open Go.RowKit
set_option linter.unusedVariables false

def numV (s : ByteArray) : Int := if below0 s then -(numB (s.extract 1 s.size) : Int) else (numB s : Int)
def numW (s : ByteArray) : Int := if numT s = true then numV s else 0
theorem numW_no {s : ByteArray} (h : numT s = false) : numW s = 0 := by unfold numW; rw [h]; rfl
theorem numW_yes {s : ByteArray} (h : numT s = true) : numW s = numV s := by unfold numW; rw [h]; rfl
theorem prefix_dash (s : ByteArray) : Lib.hasPrefix s.data.toList [45] = below0 s ∧ (⟨(Lib.trimPrefix s.data.toList [45]).toArray⟩ : ByteArray) = if below0 s then s.extract 1 s.size else s := by
  have h1 : Lib.hasPrefix s.data.toList [45] = below0 s := by
    unfold Lib.hasPrefix below0
    cases hl : s.data.toList with
    | nil =>
      have : s.size = 0 := by have := congrArg List.length hl; simpa using this
      simp [this]
    | cons b l =>
      have hz : 0 < s.size := by have := congrArg List.length hl; simp at this; omega
      have hb : byteAt s 0 = (b.toNat : Int) := by unfold byteAt; rw [hl]; rfl
      rw [hb, decide_eq_true hz, Bool.true_and]
      cases e : decide (b = 45) with
      | true =>
        have := of_decide_eq_true e
        subst this
        rfl
      | false =>
        have e2 := of_decide_eq_false e
        rw [show decide ((b.toNat : Int) = 45) = false from by
          rw [decide_eq_false_iff_not]
          intro h
          exact e2 (UInt8.toNat_inj.1 (by show b.toNat = 45; omega))]
        simp [List.isPrefixOf]
        exact fun h => e2 h.symm
  refine ⟨h1, ?_⟩
  unfold Lib.trimPrefix
  rw [h1]
  cases h : below0 s with
  | false => simp
  | true =>
    simp only [if_true]
    apply ba_ext
    rw [ByteArray.data_extract, Array.toList_extract, List.extract_eq_take_drop, List.take_of_length_le (by simp)]
    rfl
theorem numGet_any (s : ByteArray) (w : World) (hs : s.size ≤ 1048576) :
    Calls Tryz.prog 185 #[.string s] w fun e w' => e = .returned (.tuple #[.int .i64 (numW s), .bool (numT s)]) ∧ w' = w := by
  obtain ⟨h1, h2⟩ := prefix_dash s
  have HC : Hid (∀ wx, Calls Tryz.prog 186 #[.string s, .string ⟨#[45]⟩] wx fun e w' => e = .returned (.tuple #[.string (if below0 s then s.extract 1 s.size else s), .bool (below0 s)]) ∧ w' = wx) := fun wx => by
    have := Tryz.strings_CutPrefix s ⟨#[45]⟩ wx
    rw [show (⟨#[45]⟩ : ByteArray).data.toList = [45] from rfl, h1, h2] at this
    exact this
  clear h1 h2
  cases hb : below0 s with
  | true =>
    rw [hb] at HC
    have HT : Hid (numT s = (figB (s.extract 1 s.size) && decide (numB (s.extract 1 s.size) ≠ 0))) := by unfold Hid numT; rw [hb]; rfl
    have HV : Hid (numV s = -(numB (s.extract 1 s.size) : Int)) := by unfold Hid numV; rw [hb]; rfl
    simp only [if_true] at HC
    have hez : (s.extract 1 s.size).size ≤ maxLen := by rw [ByteArray.size_extract]; unfold maxLen; omega
    generalize s.extract 1 s.size = f at *
    have hn9 : figB f = true → numB f ≤ 999999999 := fun h => numB_bd f h
    cases hf : figB f with
    | false =>
      rw [hf] at HT
      have HT2 : Hid (numT s = false) := HT.out
      go_enter Tryz.func185, Tryz.ntmps185
      go_wp2_with fail
      refine (HC.out _).mono ?_
      rintro e w1 ⟨rfl, rfl⟩
      go_wp2_with fail
      refine (figuresGet_any f _ hez).mono ?_
      rintro e w1 ⟨rfl, rfl⟩
      rw [hf]
      go_wp2
      go_ret2
      exact ⟨by rw [numW_no HT2.out, HT2.out]; rfl, rfl⟩
    | true =>
      have HG : Hid (figG f = (numB f : Int)) := figG_yes hf
      have hn := hn9 hf
      rw [hf] at HT
      generalize numB f = n at *
      by_cases h0 : n = 0
      · have HT2 : Hid (numT s = false) := by unfold Hid; rw [HT.out, h0]; rfl
        subst h0
        go_enter Tryz.func185, Tryz.ntmps185
        go_wp2_with fail
        refine (HC.out _).mono ?_
        rintro e w1 ⟨rfl, rfl⟩
        go_wp2_with fail
        refine (figuresGet_any f _ hez).mono ?_
        rintro e w1 ⟨rfl, rfl⟩
        rw [hf, HG.out]
        go_wp2
        go_ret2
        exact ⟨by rw [numW_no HT2.out, HT2.out]; rfl, rfl⟩
      · have HT2 : Hid (numT s = true) := by unfold Hid; rw [HT.out]; simp [h0]
        have h0b : ((n : Int) == 0) = false := by rw [beq_eq_false_iff_ne]; omega
        go_enter Tryz.func185, Tryz.ntmps185
        go_wp2_with fail
        refine (HC.out _).mono ?_
        rintro e w1 ⟨rfl, rfl⟩
        go_wp2_with fail
        refine (figuresGet_any f _ hez).mono ?_
        rintro e w1 ⟨rfl, rfl⟩
        rw [hf, HG.out]
        go_wp2
        go_ret2
        exact ⟨by rw [numW_yes HT2.out, HT2.out, HV.out]; rfl, rfl⟩
  | false =>
    rw [hb] at HC
    have HT : Hid (numT s = figB s) := by unfold Hid numT; rw [hb]; rfl
    have HV : Hid (numV s = (numB s : Int)) := by unfold Hid numV; rw [hb]; rfl
    simp only [Bool.false_eq_true, if_false] at HC
    have hez : s.size ≤ maxLen := by unfold maxLen; omega
    cases hf : figB s with
    | false =>
      rw [hf] at HT
      go_enter Tryz.func185, Tryz.ntmps185
      go_wp2_with fail
      refine (HC.out _).mono ?_
      rintro e w1 ⟨rfl, rfl⟩
      go_wp2_with fail
      refine (figuresGet_any s _ hez).mono ?_
      rintro e w1 ⟨rfl, rfl⟩
      rw [hf]
      go_wp2
      go_ret2
      exact ⟨by rw [numW_no HT.out, HT.out]; rfl, rfl⟩
    | true =>
      have HG : Hid (figG s = (numB s : Int)) := figG_yes hf
      rw [hf] at HT
      go_enter Tryz.func185, Tryz.ntmps185
      go_wp2_with fail
      refine (HC.out _).mono ?_
      rintro e w1 ⟨rfl, rfl⟩
      go_wp2_with fail
      refine (figuresGet_any s _ hez).mono ?_
      rintro e w1 ⟨rfl, rfl⟩
      rw [hf, HG.out]
      go_wp2
      go_ret2
      exact ⟨by rw [numW_yes HT.out, HT.out, HV.out]; rfl, rfl⟩
theorem numOk_any (s : ByteArray) (w : World) (hs : s.size ≤ 1048576) :
    Calls Tryz.prog 184 #[.string s] w fun e w' => e = .returned (.bool (numT s)) ∧ Below w.heap.size w w' := by
  go_enter Tryz.func184, Tryz.ntmps184
  go_wp2_with fail
  refine (numGet_any s _ hs).mono ?_
  rintro e w1 ⟨rfl, rfl⟩
  go_wp2
  go_ret
  exact ⟨rfl, Below.refl _ _⟩
theorem textCOk_any (s : ByteArray) (w : World) (hs : s.size ≤ 1048576) :
    Calls Tryz.prog 206 #[.string s] w fun e w' => e = .returned (.bool (textB s)) ∧ Below w.heap.size w w' := by
  go_enter Tryz.func206, Tryz.ntmps206
  go_wp2_with fail
  refine (textOk_any s _ (by unfold maxLen; omega)).mono ?_
  rintro e w1 ⟨rfl, rfl⟩
  go_wp2
  go_ret
  exact ⟨rfl, Below.refl _ _⟩
set_option maxHeartbeats 1000000 in
theorem tagOk_any (s : ByteArray) (w : World) (hs : s.size ≤ 1048576) (hm : MaxL w) :
    Calls Tryz.prog 189 #[.string s] w fun e w' => e = .returned (.bool (tagT s)) ∧ Below w.heap.size w w' := by
  have hlen : (tparts s).length = manyB 44 s + 1 := cuts_full_len 44 s
  have hmn := manyB_le 44 s
  have HSZ : Hid (∀ i, i < (tparts s).length → (pat (tparts s) i).size ≤ 1048576) := fun i hi => by have := pat_size 44 (manyB 44 s) s i hi; unfold tparts; omega
  have HSP : Hid (∀ w, MaxL w → Calls Tryz.prog 190 #[.string s, .string ⟨#[44]⟩] w fun e w' => ∃ g, e = .returned (.slice (some ⟨g, 0, none⟩) (manyB 44 s + 1) (manyB 44 s + 1)) ∧ StrRow w' (some ⟨g, 0, none⟩) (cuts 44 (manyB 44 s) s) ∧ Below w.heap.size w w') := fun w hm => split_any s 44 w hs hm
  obtain ⟨ps, hps⟩ : ∃ ps, tparts s = ps := ⟨_, rfl⟩
  have HI : Hid (tagT s = (ps.all nameI && decide (ps.length ≤ 4))) := by unfold Hid tagT; rw [hps]
  have HPS : Hid (cuts 44 (manyB 44 s) s = ps) := hps
  rw [hps] at hlen HSZ
  rw [HPS.out] at HSP
  rw [← hlen] at HSP
  have hpl : ps.length ≤ 1048577 := by omega
  clear hlen hmn hps HPS
  go_enter Tryz.func189, Tryz.ntmps189
  go_wp2_with fail
  refine (HSP.out _ hm).mono ?_
  rintro e w2 ⟨g, rfl, hrow, hw2⟩
  have HR : Hid (StrRow w2 (some ⟨g, 0, none⟩) ps) := hrow
  clear HSP hm hrow
  go_wp2
  go_loop [10] (fun i => ∃ k : Nat, k ≤ ps.length ∧ i = .int .i64 k ∧ allTo (fun j => nameI (pat ps j)) k = true) (fun i => ps.length - (intOf i).toNat)
  case atStart => exact ⟨0, Nat.zero_le _, rfl, rfl⟩
  case round =>
    obtain ⟨k, hk, rfl, ha⟩ := hrel
    have HA : Hid (allTo (fun j => nameI (pat ps j)) k = true) := ha
    clear ha
    by_cases hlt : k < ps.length
    · have hks : (k : Int) < (ps.length : Int) := by omega
      obtain ⟨g', e, hg, hc⟩ := HR.out (by omega)
      cases e
      have c1 : w2.cell? ⟨g, k, none⟩ = some (.string (pat ps k)) := hc k hlt
      have hz := HSZ.out k hlt
      have HNO : Hid (nameI (pat ps k) = false → ps.all nameI = false) := fun h => by
        rw [List.all_eq_false]
        exact ⟨ps[k], List.getElem_mem _, by rw [← pat_get _ _ hlt, h]; decide⟩
      have HYS : Hid (nameI (pat ps k) = true → allTo (fun j => nameI (pat ps j)) (k + 1) = true) := fun h => allTo_snoc _ k HA.out h
      clear hc
      generalize pat ps k = p at *
      go_wp2_with fail
      refine (nameI_any p _ (by unfold maxLen; omega)).mono ?_
      rintro e _ ⟨rfl, rfl⟩
      cases hb : nameI p with
      | false =>
        have HB : Hid (tagT s = false) := by unfold Hid; rw [HI.out, HNO.out hb]; rfl
        go_wp2
        go_ret
        exact ⟨ret_bool HB.out.symm, hw2⟩
      | true =>
        have HYH : Hid (allTo (fun j => nameI (pat ps j)) (k + 1) = true) := HYS.out hb
        go_wp2
        go_round
        case rel => exact ⟨k + 1, by omega, by go_num, HYH.out⟩
        case measure => simp [intOf]; omega
    · have hkl : k = ps.length := by omega
      have HB : Hid (tagT s = decide ((ps.length : Int) ≤ 4)) := by
        unfold Hid
        rw [HI.out, show ps.all nameI = true from by
          rw [List.all_eq_true]
          intro x hx
          obtain ⟨i, hi, rfl⟩ := List.getElem_of_mem hx
          have := (allTo_iff _ _).1 HA.out i (by omega)
          rw [← pat_get _ _ hi]
          exact this, Bool.true_and]
        exact decide_eq_decide.2 (by omega)
      subst hkl
      go_wp2
      go_ret
      exact ⟨ret_bool HB.out.symm, hw2⟩
def ctype (k : Int) : TypeId := if k = 2 then 165 else if k = 3 then 166 else 167
theorem contentOf_any (k : Int) (s : ByteArray) (w : World) : Calls Tryz.prog 105 #[.int .i64 k, .string s] w fun e w' => e = .returned (.iface (ctype k) (.string s)) ∧ w' = w := by
  by_cases h2 : k = 2
  · subst h2
    go_enter Tryz.func105, Tryz.ntmps105
    go_wp2
    go_ret
    exact ⟨rfl, rfl⟩
  have h2b : (k == 2) = false := by simpa using h2
  by_cases h3 : k = 3
  · subst h3
    go_enter Tryz.func105, Tryz.ntmps105
    go_wp2
    go_ret
    exact ⟨rfl, rfl⟩
  have h3b : (k == 3) = false := by simpa using h3
  have HC : Hid (ctype k = 167) := by unfold Hid ctype; rw [if_neg h2, if_neg h3]
  go_enter Tryz.func105, Tryz.ntmps105
  go_wp2
  go_ret
  exact ⟨by rw [HC.out]; rfl, rfl⟩
end Go.Proofs.YtbifagdcnpnpjaaGreat

/- spec.l1Cut cuts a text at a byte, so many times at most. -/
namespace Go.Proofs.YtbifagdcnpnpjaaGreat
open Go.RowKit
set_option linter.unusedVariables false

theorem infoStrC : (Tryz.prog.info? 9).map (fun i => (i.zero, i.size, i.bytes)) = some (some (.string ⟨#[]⟩), 1, 16) := by kernel_rfl
theorem str_oneC (s : ByteArray) : ∀ u ∈ [Value.string s], u.oneCell' = true := by
  intro u hu
  simp at hu
  subst hu
  rfl

set_option maxRecDepth 100000 in
set_option maxHeartbeats 4000000 in
theorem l1Cut_any (s : ByteArray) (b : UInt8) (B : Int) (hB : B = (b.toNat : Int)) (most : Nat) (w : World) (hs : s.size ≤ 1048576) (hm : most ≤ 1048577) :
    Calls Tryz.prog 129 #[.string s, .int .u8 B, .int .i64 most] w fun e w' => ∃ v, e = .returned v ∧ w'.ownsRow w.heap.size 9 1 v (cuts b most s).length ((cuts b most s).map Value.string) ∧ Below w.heap.size w w' := by
  obtain ⟨i0, hi, hz0, hz1, hz2⟩ := info_parts infoStrC
  have hBH : Hid (B = (b.toNat : Int)) := hB
  clear hB
  go_enter Tryz.func129, Tryz.ntmps129
  go_wp2
  go_loopw [7, 8, 9] (fun o fr ii wr => ∃ (f i : Nat) (acc : List ByteArray), f ≤ i ∧ i ≤ s.size ∧ acc.length ≤ most ∧ ii = .int .i64 i ∧ fr = .int .i64 f ∧ acc ++ cuts b (most - acc.length) (s.extract f s.size) = cuts b most s ∧ (∀ j, f ≤ j → j < i → byteAt s j ≠ B) ∧
      wr.ownsRow w.heap.size 9 1 o acc.length (acc.map Value.string) ∧ (∃ oa oc, o = .slice oa acc.length oc) ∧ Below w.heap.size w wr) (fun _ _ i _ => s.size - (intOf i).toNat)
  case atStart => exact ⟨0, 0, [], Nat.le_refl _, Nat.zero_le _, Nat.zero_le _, rfl, rfl, by rw [extract_all]; simp, (fun j _ h => by omega), World.ownsRow_lit w #[] 0 (Nat.le_refl _) (by decide) rfl, ⟨_, _, rfl⟩, (Below.refl _ w).alloc (Nat.le_refl _) _⟩
  case round =>
    obtain ⟨f, i, acc, hfi, hil, hal, rfl, rfl, hcut, hno, hown, ⟨oa, oc, rfl⟩, hbel⟩ := hrel
    have hsz := hbel.size
    have HC : Hid (acc ++ cuts b (most - acc.length) (s.extract f s.size) = cuts b most s) := hcut
    have HN : Hid (∀ j, f ≤ j → j < i → byteAt s j ≠ B) := hno
    have HO : Hid (wr.ownsRow w.heap.size 9 1 (.slice oa acc.length oc) acc.length (acc.map Value.string)) := hown
    clear hcut hno hown
    by_cases hgo : i < s.size ∧ acc.length < most
    · obtain ⟨hlt, hlm⟩ := hgo
      have hbt := byteAt_eq s i hlt
      have HBT : Hid (byteAt s i = ((s[i]'hlt).toNat : Int)) := hbt
      clear hbt
      by_cases heq : ((s[i]'hlt).toNat : Int) = B
      · have HNX : Hid (cuts b (most - acc.length) (s.extract f s.size) = s.extract f i :: cuts b (most - acc.length - 1) (s.extract (i + 1) s.size)) := by
          unfold Hid
          rw [show most - acc.length = (most - acc.length - 1) + 1 from by omega]
          exact cuts_hit s b _ f i hfi hlt (by rw [HBT.out, heq, hBH.out]) (fun j h1 h2 => by rw [← hBH.out]; exact HN.out j h1 h2)
        have hf1 : (f : Int) ≤ (i : Int) := by omega
        have hi1 : (i : Int) ≤ (s.size : Int) := by omega
        go_wp2_with (at_builtin; refine wpList_append_own _ rfl _ _ 56 rfl w.heap.size 9 i0 (.string ⟨#[]⟩) 1 16 Tryz.underlying56 hi hz0 hz1 hz2 rfl (by decide) _ _ _ rfl (HO.out.alloc _) ⟨wr.heap.size, 0, none⟩ 1 1 [.string (s.extract f i)] rfl rfl (cells_new _ _ _) (str_oneC _) (by unfold maxLen; omega) (by omega) (by simp; omega) ?_)
        intro v' w3 hown' hgrow _
        have hb4 : Below w.heap.size w w3 := (hbel.alloc hsz _).grown hgrow (by simp; omega) (fun j hj => (HO.out.lt j hj).1)
        obtain ⟨va, vc, hv⟩ : ∃ va vc, v' = .slice va (acc.length + 1) vc := by
          rcases hown'.2 with ⟨h1, h2⟩ | ⟨g, c, cur, h1, _⟩
          · omega
          · exact ⟨_, _, h1⟩
        subst hv
        have HO3 : Hid (w3.ownsRow w.heap.size 9 1 (.slice va (acc.length + 1) vc) (acc ++ [s.extract f i]).length ((acc ++ [s.extract f i]).map Value.string)) := by
          unfold Hid
          rw [List.map_append, List.length_append]
          exact hown'
        clear hown' hgrow HO
        go_wp2
        go_roundw
        case rel =>
          refine ⟨i + 1, i + 1, acc ++ [s.extract f i], Nat.le_refl _, by omega, by simp; omega, by go_num, by go_num, ?_, (fun j h1 h2 => by omega), HO3.out, ⟨va, vc, by simp⟩, hb4⟩
          rw [← HC.out, HNX.out]
          simp [Nat.sub_sub]
        case measure => simp [intOf]; omega
      · go_wp2
        go_roundw
        case rel =>
          refine ⟨f, i + 1, acc, by omega, by omega, hal, by go_num, rfl, HC.out, (fun j h1 h2 => ?_), HO.out, ⟨oa, oc, rfl⟩, hbel⟩
          by_cases e : j = i
          · subst e; rw [HBT.out]; exact heq
          · exact HN.out j h1 (by omega)
        case measure => simp [intOf]; omega
    · have HL : Hid (cuts b (most - acc.length) (s.extract f s.size) = [s.extract f s.size]) := by
        unfold Hid
        by_cases hm0 : acc.length < most
        · have hie : i = s.size := by omega
          subst hie
          exact cuts_miss s b _ f hfi (fun j h1 h2 => by rw [← hBH.out]; exact HN.out j h1 h2)
        · rw [show most - acc.length = 0 from by omega]
          rfl
      have HF : Hid (acc ++ [s.extract f s.size] = cuts b most s) := by unfold Hid; rw [← HC.out, HL.out]
      have hf1 : (f : Int) ≤ (s.size : Int) := by omega
      have hstop : (i : Int) < (s.size : Int) → (acc.length : Int) < (most : Int) → False := fun h1 h2 => hgo ⟨by omega, by omega⟩
      clear hgo HC HL HN
      by_cases h1 : (i : Int) < (s.size : Int)
      · have h2 : ¬ (acc.length : Int) < (most : Int) := fun h => hstop h1 h
        clear hstop
        go_wp2_with (at_builtin; refine wpList_append_own _ rfl _ _ 56 rfl w.heap.size 9 i0 (.string ⟨#[]⟩) 1 16 Tryz.underlying56 hi hz0 hz1 hz2 rfl (by decide) _ _ _ rfl (HO.out.alloc _) ⟨wr.heap.size, 0, none⟩ 1 1 [.string (s.extract f s.size)] rfl rfl (cells_new _ _ _) (str_oneC _) (by unfold maxLen; omega) (by omega) (by simp; omega) ?_)
        intro v' w3 hown' hgrow _
        have hb4 : Below w.heap.size w w3 := (hbel.alloc hsz _).grown hgrow (by simp; omega) (fun j hj => (HO.out.lt j hj).1)
        have HO3 : Hid (w3.ownsRow w.heap.size 9 1 v' (cuts b most s).length ((cuts b most s).map Value.string)) := by
          unfold Hid
          rw [← HF.out, List.map_append, List.length_append]
          exact hown'
        clear hown' hgrow HO HF
        go_wp2
        go_ret
        exact ⟨v', rfl, HO3.out, hb4⟩
      · clear hstop
        go_wp2_with (at_builtin; refine wpList_append_own _ rfl _ _ 56 rfl w.heap.size 9 i0 (.string ⟨#[]⟩) 1 16 Tryz.underlying56 hi hz0 hz1 hz2 rfl (by decide) _ _ _ rfl (HO.out.alloc _) ⟨wr.heap.size, 0, none⟩ 1 1 [.string (s.extract f s.size)] rfl rfl (cells_new _ _ _) (str_oneC _) (by unfold maxLen; omega) (by omega) (by simp; omega) ?_)
        intro v' w3 hown' hgrow _
        have hb4 : Below w.heap.size w w3 := (hbel.alloc hsz _).grown hgrow (by simp; omega) (fun j hj => (HO.out.lt j hj).1)
        have HO3 : Hid (w3.ownsRow w.heap.size 9 1 v' (cuts b most s).length ((cuts b most s).map Value.string)) := by
          unfold Hid
          rw [← HF.out, List.map_append, List.length_append]
          exact hown'
        clear hown' hgrow HO HF
        go_wp2
        go_ret
        exact ⟨v', rfl, HO3.out, hb4⟩
end Go.Proofs.YtbifagdcnpnpjaaGreat

/- l2Add of the model. -/
namespace Go.Proofs.YtbifagdcnpnpjaaGreat
open Go.RowKit
set_option linter.unusedVariables false

theorem infoStrA : (Tryz.prog.info? 9).map (fun i => (i.zero, i.size, i.bytes)) = some (some (.string ⟨#[]⟩), 1, 16) := by kernel_rfl
theorem step_append_own {P : Program} {w : World} {ops : Array Oper} {o : Oper} {a : Act} {K : Act → World → Prop} {Q : Exit → Act → World → Prop} {E : Prop} (hgd : o.guard = none) (s x : Operand) (t : TypeId)
    (ho : o.op = .call { callee := .builtin .append, args := #[s, x], argTypes := #[t, t] })
    (base : Nat) (e : TypeId) (i : TypeInfo) (z : Value) (size bytes : Nat) (ht : P.underlying t = some (.slice e)) (hi : P.info? e = some i) (hz : i.zero = some z)
    (hsize : i.size = size) (hby : i.bytes = bytes) (hzs : z.cells.size = size) (hsz : 0 < size)
    (v : Value) (n : Nat) (xs : List Value) (hs : a.eval s = v) (hown : w.ownsRow base e size v n xs)
    (ad : Addr) (m c : Nat) (news : List Value) (hx : a.eval x = .slice (some ad) m c) (hl : news.length = m * size) (hnews : ∀ j u, news[j]? = some u → w.cell? (ad.add j) = some u) (h1 : ∀ u ∈ news, u.oneCell' = true)
    (h63 : n + m ≤ maxLen) (hbytes : (n + m) * bytes ≤ 140737488355328) (hbase : base ≤ w.heap.size)
    (h : ∀ v' w', w'.ownsRow base e size v' (n + m) (xs ++ news) → w.grownBy w' v.ownBlock → (v' = .slice none 0 0 ↔ v = .slice none 0 0 ∧ m = 0) → K (a.put o.dst v') w') :
    if Region.wanted o (yielded ops a.tmps) = true then Oper.wp P o a w K Q else E := by
  have hw : Region.wanted o (yielded ops a.tmps) = true := by simp [Region.wanted, hgd]
  rw [if_pos hw]
  exact wp_append_own w s x t ho base e i z size bytes ht hi hz hsize hby hzs hsz v n xs hs hown ad m c news hx hl hnews h1 h63 hbytes hbase h
theorem strs_oneL (ss : List ByteArray) : ∀ u ∈ ss.map Value.string, u.oneCell' = true := by
  intro u hu
  obtain ⟨x, _, rfl⟩ := List.mem_map.1 hu
  rfl
theorem str_oneL (t : ByteArray) : ∀ u ∈ [Value.string t], u.oneCell' = true := by
  intro u hu
  simp at hu
  subst hu
  rfl
/-- A row of strings, as it is read. -/
theorem own_read {w w' : World} {B g c : Nat} {ss : List ByteArray} (h : w.ownsRow B 9 1 (.slice (some ⟨g, 0, none⟩) ss.length c) ss.length (ss.map Value.string)) (hb : Below w.heap.size w w') (k m : Nat) (hk : k + m ≤ ss.length) :
    ∀ j u, (((ss.drop k).take m).map Value.string)[j]? = some u → w'.cell? ((⟨g, k, none⟩ : Addr).add j) = some u := by
  intro j u hj
  have hjm : j < m := by
    have := (List.getElem?_eq_some_iff.1 hj).1
    simp at this
    omega
  have hgl := (h.lt g rfl).2
  rw [addr_add, hb.cell (p := ⟨g, k + j, none⟩) hgl, h.cellAt (k + j) (by omega)]
  rw [List.getElem?_map, List.getElem?_take, if_pos hjm, List.getElem?_drop] at hj
  rw [List.getElem?_map]
  exact hj
theorem ret_row {w : World} {B : Nat} {v : Value} {ss : List ByteArray} {n : Nat} (hn : ss.length = n) (h : w.ownsRow B 9 1 v n (ss.map Value.string)) (hv : v ≠ .slice none 0 0) : ∃ g c, v = .slice (some ⟨g, 0, none⟩) ss.length c ∧ w.ownsRow B 9 1 (.slice (some ⟨g, 0, none⟩) ss.length c) ss.length (ss.map Value.string) := by
  subst hn
  rcases h.2 with ⟨e, _⟩ | ⟨g, c, cur, e, _⟩
  · exact absurd e hv
  · subst e
    exact ⟨g, c, rfl, h⟩

set_option maxRecDepth 100000 in
set_option maxHeartbeats 1500000 in
theorem l2Add_any (B g c : Nat) (ss : List ByteArray) (t : ByteArray) (w : World) (hz : ss.length ≤ 2000000) (hB : B ≤ w.heap.size) (hown : w.ownsRow B 9 1 (.slice (some ⟨g, 0, none⟩) ss.length c) ss.length (ss.map Value.string)) :
    Calls Tryz.prog 130 #[.slice (some ⟨g, 0, none⟩) ss.length c, .string t] w fun e w' => ∃ g' c' ss', e = .returned (.slice (some ⟨g', 0, none⟩) (List.length ss') c') ∧ ss'.length ≤ ss.length + 1 ∧ w'.ownsRow B 9 1 (.slice (some ⟨g', 0, none⟩) ss'.length c') ss'.length (ss'.map Value.string) ∧ Below w.heap.size w w' ∧ ss' = addL ss t := by
  obtain ⟨i0, hi, hz0, hz1, hz2⟩ := info_parts infoStrA
  have hcap : ss.length ≤ c := by
    rcases hown.2 with ⟨e, _⟩ | ⟨g', c', cur, e, _, _, h, _⟩
    · cases e
    · cases e; exact h
  go_enter Tryz.func130, Tryz.ntmps130
  go_wp2
  go_loop [5] (fun i => ∃ k : Nat, k ≤ ss.length ∧ i = .int .i64 k ∧ LtTo ss t k) (fun i => ss.length - (intOf i).toNat)
  case atStart => exact ⟨0, Nat.zero_le _, rfl, LtTo.zero ss t⟩
  case round =>
    obtain ⟨k, hk, rfl, hlt0⟩ := hrel
    have HLT : Hid (LtTo ss t k) := hlt0
    clear hlt0
    have hki : (k : Int) ≤ (ss.length : Int) := by omega
    have hkc1 : (k : Int) ≤ (c : Int) := by omega
    have HA : Hid ((w.alloc (.cells #[] 9)).drew.ownsRow w.heap.size 9 1 (.slice (some ⟨w.heap.size, 0, none⟩) 0 0) 0 []) := World.ownsRow_lit w #[] 0 (Nat.le_refl _) (by decide) rfl
    have HA0 : (w.alloc (.cells #[] 9)).ownsRow w.heap.size 9 1 (.slice (some ⟨w.heap.size, 0, none⟩) 0 0) 0 [] := World.ownsRow_lit w #[] 0 (Nat.le_refl _) (by decide) rfl
    have HC : Hid (((w.alloc (.cells #[] 9)).alloc (.cells #[.string t] 9)).drew.ownsRow w.heap.size 9 1 (.slice (some ⟨w.heap.size, 0, none⟩) 0 0) 0 []) := And.intro (HA0.alloc (.cells #[.string t] 9)).1 (HA0.alloc (.cells #[.string t] 9)).2
    have HF0 : ((w.alloc (.cells #[.string t] 9)).alloc (.cells #[] 9)).ownsRow w.heap.size 9 1 (.slice (some ⟨w.heap.size + 1, 0, none⟩) 0 0) 0 [] := by
      have h := World.ownsRow_lit (e := 9) (size := 1) (w.alloc (.cells #[.string t] 9)) #[] 0 (Nat.le_refl _) (by decide) rfl
      rw [show (w.alloc (.cells #[.string t] 9)).heap.size = w.heap.size + 1 from by simp] at h
      exact ownsRow_mono h (by omega)
    have HF : Hid (((w.alloc (.cells #[.string t] 9)).alloc (.cells #[] 9)).drew.ownsRow w.heap.size 9 1 (.slice (some ⟨w.heap.size + 1, 0, none⟩) 0 0) 0 []) := And.intro HF0.1 HF0.2
    have hb0 : Below w.heap.size w (w.alloc (.cells #[] 9)) := (Below.refl _ w).alloc (Nat.le_refl _) _
    have hb1 : Below w.heap.size w ((w.alloc (.cells #[] 9)).alloc (.cells #[.string t] 9)) := hb0.alloc hb0.size _
    have hb2 : Below w.heap.size w (w.alloc (.cells #[.string t] 9)) := (Below.refl _ w).alloc (Nat.le_refl _) _
    have hb3 : Below w.heap.size w ((w.alloc (.cells #[.string t] 9)).alloc (.cells #[] 9)) := hb2.alloc hb2.size _
    have hbA : Below w.heap.size w (w.alloc (.cells #[] 9)).drew := ⟨hb0.os, hb0.tape, hb0.output, hb0.size, hb0.block⟩
    have hbC : Below w.heap.size w ((w.alloc (.cells #[] 9)).alloc (.cells #[.string t] 9)).drew := ⟨hb1.os, hb1.tape, hb1.output, hb1.size, hb1.block⟩
    have hbF : Below w.heap.size w ((w.alloc (.cells #[.string t] 9)).alloc (.cells #[] 9)).drew := ⟨hb3.os, hb3.tape, hb3.output, hb3.size, hb3.block⟩
    have HRD : Hid (∀ w', Below w.heap.size w w' → ∀ j u, ((ss.take k).map Value.string)[j]? = some u → w'.cell? ((⟨g, 0, none⟩ : Addr).add j) = some u) := fun w' hb => by
      have := own_read hown hb 0 k (by omega)
      rw [List.drop_zero] at this
      exact this
    have HNA : Hid (∀ j u, ((ss.take k).map Value.string)[j]? = some u → (w.alloc (.cells #[] 9)).drew.cell? ((⟨g, 0, none⟩ : Addr).add j) = some u) := HRD.out _ hbA
    have HNC : Hid (∀ j u, ((ss.take k).map Value.string)[j]? = some u → ((w.alloc (.cells #[] 9)).alloc (.cells #[.string t] 9)).drew.cell? ((⟨g, 0, none⟩ : Addr).add j) = some u) := HRD.out _ hbC
    have HNF : Hid (∀ j u, ((ss.take k).map Value.string)[j]? = some u → ((w.alloc (.cells #[.string t] 9)).alloc (.cells #[] 9)).drew.cell? ((⟨g, 0, none⟩ : Addr).add j) = some u) := HRD.out _ hbF
    have HLC : Hid (∀ j u, [Value.string t][j]? = some u → ((w.alloc (.cells #[] 9)).alloc (.cells #[.string t] 9)).drew.cell? ((⟨w.heap.size + 1, 0, none⟩ : Addr).add j) = some u) := by
      have h := cells_new (w.alloc (.cells #[] 9)) [Value.string t] 9
      rw [show (w.alloc (.cells #[] 9)).heap.size = w.heap.size + 1 from by simp] at h
      exact h
    have HLF : Hid (∀ j u, [Value.string t][j]? = some u → ((w.alloc (.cells #[.string t] 9)).alloc (.cells #[] 9)).drew.cell? ((⟨w.heap.size, 0, none⟩ : Addr).add j) = some u) := fun j u h => by
      have h1 := cells_new w [Value.string t] 9 j u h
      rw [addr_add] at h1 ⊢
      exact (((Below.refl _ (w.alloc (.cells #[.string t] 9))).alloc (Nat.le_refl _) (.cells #[] 9)).cell (p := ⟨w.heap.size, 0 + j, none⟩) (by simp)).trans h1
    have HR3 : Hid (∀ w', Below w.heap.size w w' → ∀ j u, (((ss.drop k).take (ss.length - k)).map Value.string)[j]? = some u → w'.cell? ((⟨g, k, none⟩ : Addr).add j) = some u) := fun w' hb => own_read hown hb k (ss.length - k) (by omega)
    have HL1 : Hid (((ss.take k).map Value.string).length = k * 1) := by unfold Hid; simp; omega
    have HL3 : Hid ((((ss.drop k).take (ss.length - k)).map Value.string).length = (ss.length - k) * 1) := by unfold Hid; simp
    clear HA0 HF0 hb0 hb1 hb2 hb3 HRD
    by_cases hlt : k < ss.length
    · have hks : (k : Int) < (ss.length : Int) := by omega
      have hck : ¬ (c = k) := by omega
      have c1 : w.cell? ⟨g, k, none⟩ = some (.string (ss[k]'hlt)) := by rw [hown.cellAt k (by omega), List.getElem?_map, List.getElem?_eq_getElem hlt]; rfl
      have HOW : Hid (w.ownsRow B 9 1 (.slice (some ⟨g, 0, none⟩) ss.length c) ss.length (ss.map Value.string)) := hown
      clear hown
      have HST : Hid (Op.bytesLess (ss[k]'hlt).toList t.toList = true → LtTo ss t (k + 1)) := fun h => HLT.out.step hlt h
      have HEQ : Hid (Op.bytesLess (ss[k]'hlt).toList t.toList = false → ((ss[k]'hlt).toList == t.toList) = true → ss = addL ss t) := fun h1 h2 => (addL_eq HLT.out hlt h1 h2).symm
      have HIN : Hid (Op.bytesLess (ss[k]'hlt).toList t.toList = false → ((ss[k]'hlt).toList == t.toList) = false → ss.take k ++ [t] ++ ss.drop k = addL ss t) := fun h1 h2 => (addL_in HLT.out hlt h1 h2).symm
      generalize ss[k]'hlt = p at *
      cases hl : Op.bytesLess p.toList t.toList with
      | true =>
        have HS1 : Hid (LtTo ss t (k + 1)) := HST.out hl
        clear HST HEQ HIN
        go_wp2
        go_round
        case rel => exact ⟨k + 1, by omega, by go_num, HS1.out⟩
        case measure => simp [intOf]; omega
      | false =>
        cases he : (p.toList == t.toList) with
        | true =>
          have HE : Hid (ss = addL ss t) := HEQ.out hl he
          clear HST HEQ HIN
          go_wp2
          go_ret
          exact ⟨g, c, ss, rfl, by omega, HOW.out, Below.refl _ _, HE.out⟩
        | false =>
          have HE : Hid (ss.take k ++ [t] ++ ss.drop k = addL ss t) := HIN.out hl he
          clear HST HEQ HIN
          go_wp2_with fail
          go_region_law (first
            | (refine step_append_own (by rfl) _ _ 56 (by rfl) w.heap.size 9 i0 (.string ⟨#[]⟩) 1 16 Tryz.underlying56 hi hz0 hz1 hz2 rfl (by decide) (.slice (some ⟨w.heap.size, 0, none⟩) 0 0) 0 [] (by rfl) (by with_reducible exact HA.out) ⟨g, 0, none⟩ k c ((ss.take k).map Value.string) (by rfl) HL1.out (by with_reducible exact HNA.out) (strs_oneL _) (by unfold maxLen; omega) (by omega) (by simp <;> omega) ?_; intro v6 w6 hown6 hgrow6 hnn6; have hb6 : Below w.heap.size w w6 := hbA.grown ⟨hgrow6.os, hgrow6.tape, hgrow6.output, hgrow6.size, hgrow6.block⟩ hbA.size (fun j hj => by cases hj; first | exact Nat.le_refl _ | exact Nat.le_succ _); have HO6 : Hid (w6.ownsRow w.heap.size 9 1 v6 k ((ss.take k).map Value.string)) := by { unfold Hid; simpa using hown6 }; have hs6 := hb6.size; clear hown6 hgrow6)
            | (refine step_append_own (by rfl) _ _ 56 (by rfl) w.heap.size 9 i0 (.string ⟨#[]⟩) 1 16 Tryz.underlying56 hi hz0 hz1 hz2 rfl (by decide) (.slice (some ⟨w.heap.size, 0, none⟩) 0 0) 0 [] (by rfl) (by with_reducible exact HC.out) ⟨g, 0, none⟩ k c ((ss.take k).map Value.string) (by rfl) HL1.out (by with_reducible exact HNC.out) (strs_oneL _) (by unfold maxLen; omega) (by omega) (by simp <;> omega) ?_; intro v6 w6 hown6 hgrow6 hnn6; have hb6 : Below w.heap.size w w6 := hbC.grown ⟨hgrow6.os, hgrow6.tape, hgrow6.output, hgrow6.size, hgrow6.block⟩ hbC.size (fun j hj => by cases hj; first | exact Nat.le_refl _ | exact Nat.le_succ _); have hl6 : ∀ j u, [Value.string t][j]? = some u → w6.cell? ((⟨w.heap.size + 1, 0, none⟩ : Addr).add j) = some u := fun j u h => hgrow6.cell (HLC.out j u h) (by rw [addr_add]; simp [Value.ownBlock]); have HO6 : Hid (w6.ownsRow w.heap.size 9 1 v6 k ((ss.take k).map Value.string)) := by { unfold Hid; simpa using hown6 }; have hs6 := hb6.size; clear hown6 hgrow6)
            | (refine step_append_own (by rfl) _ _ 56 (by rfl) w.heap.size 9 i0 (.string ⟨#[]⟩) 1 16 Tryz.underlying56 hi hz0 hz1 hz2 rfl (by decide) (.slice (some ⟨w.heap.size + 1, 0, none⟩) 0 0) 0 [] (by rfl) (by with_reducible exact HF.out) ⟨g, 0, none⟩ k c ((ss.take k).map Value.string) (by rfl) HL1.out (by with_reducible exact HNF.out) (strs_oneL _) (by unfold maxLen; omega) (by omega) (by simp <;> omega) ?_; intro v6 w6 hown6 hgrow6 hnn6; have hb6 : Below w.heap.size w w6 := hbF.grown ⟨hgrow6.os, hgrow6.tape, hgrow6.output, hgrow6.size, hgrow6.block⟩ hbF.size (fun j hj => by cases hj; first | exact Nat.le_refl _ | exact Nat.le_succ _); have hl6 : ∀ j u, [Value.string t][j]? = some u → w6.cell? ((⟨w.heap.size, 0, none⟩ : Addr).add j) = some u := fun j u h => hgrow6.cell (HLF.out j u h) (by rw [addr_add]; simp [Value.ownBlock]); have HO6 : Hid (w6.ownsRow w.heap.size 9 1 v6 k ((ss.take k).map Value.string)) := by { unfold Hid; simpa using hown6 }; have hs6 := hb6.size; clear hown6 hgrow6)
            | (refine step_append_own (by rfl) _ _ 56 (by rfl) w.heap.size 9 i0 (.string ⟨#[]⟩) 1 16 Tryz.underlying56 hi hz0 hz1 hz2 rfl (by decide) v6 k ((ss.take k).map Value.string) (by rfl) (HO6.out.alloc _) ⟨w6.heap.size, 0, none⟩ 1 1 [.string t] (by rfl) rfl (cells_new _ _ _) (str_oneL _) (by unfold maxLen; omega) (by omega) (by first | omega | (simp; omega)) ?_; intro v7 w7 hown7 hgrow7 hnn7; have hb7 : Below w.heap.size w w7 := (hb6.alloc hb6.size (.cells #[.string t] 9)).grown ⟨hgrow7.os, hgrow7.tape, hgrow7.output, hgrow7.size, hgrow7.block⟩ (hb6.alloc hb6.size (.cells #[.string t] 9)).size (fun j hj => (HO6.out.lt j hj).1); have HO7 : Hid (w7.ownsRow w.heap.size 9 1 v7 (k + 1) ((ss.take k).map Value.string ++ [.string t])) := hown7; have HN7 : Hid (v7 ≠ .slice none 0 0) := (fun e => by have := (hnn7.1 e).2; cases this); have hs7 := hb7.size; clear hown7 hgrow7 hnn7)
            | (refine step_append_own (by rfl) _ _ 56 (by rfl) w.heap.size 9 i0 (.string ⟨#[]⟩) 1 16 Tryz.underlying56 hi hz0 hz1 hz2 rfl (by decide) v6 k ((ss.take k).map Value.string) (by rfl) (HO6.out) ⟨w.heap.size + 1, 0, none⟩ 1 1 [.string t] (by rfl) rfl (hl6) (str_oneL _) (by unfold maxLen; omega) (by omega) (by first | omega | (simp; omega)) ?_; intro v7 w7 hown7 hgrow7 hnn7; have hb7 : Below w.heap.size w w7 := (hb6).grown ⟨hgrow7.os, hgrow7.tape, hgrow7.output, hgrow7.size, hgrow7.block⟩ (hb6).size (fun j hj => (HO6.out.lt j hj).1); have HO7 : Hid (w7.ownsRow w.heap.size 9 1 v7 (k + 1) ((ss.take k).map Value.string ++ [.string t])) := hown7; have HN7 : Hid (v7 ≠ .slice none 0 0) := (fun e => by have := (hnn7.1 e).2; cases this); have hs7 := hb7.size; clear hown7 hgrow7 hnn7)
            | (refine step_append_own (by rfl) _ _ 56 (by rfl) w.heap.size 9 i0 (.string ⟨#[]⟩) 1 16 Tryz.underlying56 hi hz0 hz1 hz2 rfl (by decide) v6 k ((ss.take k).map Value.string) (by rfl) (HO6.out) ⟨w.heap.size, 0, none⟩ 1 1 [.string t] (by rfl) rfl (hl6) (str_oneL _) (by unfold maxLen; omega) (by omega) (by first | omega | (simp; omega)) ?_; intro v7 w7 hown7 hgrow7 hnn7; have hb7 : Below w.heap.size w w7 := (hb6).grown ⟨hgrow7.os, hgrow7.tape, hgrow7.output, hgrow7.size, hgrow7.block⟩ (hb6).size (fun j hj => (HO6.out.lt j hj).1); have HO7 : Hid (w7.ownsRow w.heap.size 9 1 v7 (k + 1) ((ss.take k).map Value.string ++ [.string t])) := hown7; have HN7 : Hid (v7 ≠ .slice none 0 0) := (fun e => by have := (hnn7.1 e).2; cases this); have hs7 := hb7.size; clear hown7 hgrow7 hnn7)
            | (refine step_append_own (by rfl) _ _ 56 (by rfl) w.heap.size 9 i0 (.string ⟨#[]⟩) 1 16 Tryz.underlying56 hi hz0 hz1 hz2 rfl (by decide) v7 (k + 1) ((ss.take k).map Value.string ++ [.string t]) (by rfl) HO7.out ⟨g, k, none⟩ (ss.length - k) (c - k) (((ss.drop k).take (ss.length - k)).map Value.string) (by rfl) HL3.out (HR3.out _ hb7) (strs_oneL _) (by unfold maxLen; omega) (by omega) (by omega) ?_; intro v8 w8 hown8 hgrow8 hnn8; have hb8 : Below w.heap.size w w8 := hb7.grown ⟨hgrow8.os, hgrow8.tape, hgrow8.output, hgrow8.size, hgrow8.block⟩ hb7.size (fun j hj => (HO7.out.lt j hj).1); have HO8 : Hid (w8.ownsRow w.heap.size 9 1 v8 (k + 1 + (ss.length - k)) (((ss.take k).map Value.string ++ [.string t]) ++ ((ss.drop k).take (ss.length - k)).map Value.string)) := hown8; have HN8 : Hid (v8 ≠ .slice none 0 0) := (fun e => HN7.out (hnn8.1 e).1); clear hown8 hgrow8 hnn8)
            | fail)
          all_goals
            have HSS : Hid (((ss.take k).map Value.string ++ [.string t]) ++ ((ss.drop k).take (ss.length - k)).map Value.string = (ss.take k ++ [t] ++ ss.drop k).map Value.string) := by
              unfold Hid
              rw [show (ss.drop k).take (ss.length - k) = ss.drop k from List.take_of_length_le (by simp), List.map_append, List.map_append]
              rfl
            have hlen : (ss.take k ++ [t] ++ ss.drop k).length = k + 1 + (ss.length - k) := by simp; omega
            rw [HSS.out] at HO8
            obtain ⟨g', c', hv, ho⟩ := ret_row hlen HO8.out HN8.out
            have HOB : Hid (w8.ownsRow B 9 1 (.slice (some ⟨g', 0, none⟩) (ss.take k ++ [t] ++ ss.drop k).length c') (ss.take k ++ [t] ++ ss.drop k).length ((ss.take k ++ [t] ++ ss.drop k).map Value.string)) := ownsRow_mono ho hB
            have hl2 : (ss.take k ++ [t] ++ ss.drop k).length ≤ ss.length + 1 := by omega
            clear HO8 HO7 HO6 ho HSS hlen HN8 HN7
            generalize ss.take k ++ [t] ++ ss.drop k = S at *
            subst hv
            go_wp2
            go_ret
            exact ⟨g', c', S, rfl, hl2, HOB.out, hb8, HE.out⟩
    · have hkl : k = ss.length := by omega
      have hkd : decide ((k : Int) < (ss.length : Int)) = false := decide_eq_false (by omega)
      have hge : ss.length ≤ k := by omega
      have HE : Hid (ss.take k ++ [t] = addL ss t) := (addL_end HLT.out hge).symm
      clear hkl hlt hown hkd HR3 HL3
      by_cases hck : c = k
      · have hck2 : k = c := hck.symm
        clear hck
        subst hck2
        go_wp2_with fail
        go_region_law (first
          | (refine step_append_own (by rfl) _ _ 56 (by rfl) w.heap.size 9 i0 (.string ⟨#[]⟩) 1 16 Tryz.underlying56 hi hz0 hz1 hz2 rfl (by decide) (.slice (some ⟨w.heap.size, 0, none⟩) 0 0) 0 [] (by rfl) (by with_reducible exact HA.out) ⟨g, 0, none⟩ k k ((ss.take k).map Value.string) (by rfl) HL1.out (by with_reducible exact HNA.out) (strs_oneL _) (by unfold maxLen; omega) (by omega) (by simp <;> omega) ?_; intro v6 w6 hown6 hgrow6 hnn6; have hb6 : Below w.heap.size w w6 := hbA.grown ⟨hgrow6.os, hgrow6.tape, hgrow6.output, hgrow6.size, hgrow6.block⟩ hbA.size (fun j hj => by cases hj; first | exact Nat.le_refl _ | exact Nat.le_succ _); have HO6 : Hid (w6.ownsRow w.heap.size 9 1 v6 k ((ss.take k).map Value.string)) := by { unfold Hid; simpa using hown6 }; have hs6 := hb6.size; clear hown6 hgrow6)
          | (refine step_append_own (by rfl) _ _ 56 (by rfl) w.heap.size 9 i0 (.string ⟨#[]⟩) 1 16 Tryz.underlying56 hi hz0 hz1 hz2 rfl (by decide) (.slice (some ⟨w.heap.size, 0, none⟩) 0 0) 0 [] (by rfl) (by with_reducible exact HC.out) ⟨g, 0, none⟩ k k ((ss.take k).map Value.string) (by rfl) HL1.out (by with_reducible exact HNC.out) (strs_oneL _) (by unfold maxLen; omega) (by omega) (by simp <;> omega) ?_; intro v6 w6 hown6 hgrow6 hnn6; have hb6 : Below w.heap.size w w6 := hbC.grown ⟨hgrow6.os, hgrow6.tape, hgrow6.output, hgrow6.size, hgrow6.block⟩ hbC.size (fun j hj => by cases hj; first | exact Nat.le_refl _ | exact Nat.le_succ _); have hl6 : ∀ j u, [Value.string t][j]? = some u → w6.cell? ((⟨w.heap.size + 1, 0, none⟩ : Addr).add j) = some u := fun j u h => hgrow6.cell (HLC.out j u h) (by rw [addr_add]; simp [Value.ownBlock]); have HO6 : Hid (w6.ownsRow w.heap.size 9 1 v6 k ((ss.take k).map Value.string)) := by { unfold Hid; simpa using hown6 }; have hs6 := hb6.size; clear hown6 hgrow6)
          | (refine step_append_own (by rfl) _ _ 56 (by rfl) w.heap.size 9 i0 (.string ⟨#[]⟩) 1 16 Tryz.underlying56 hi hz0 hz1 hz2 rfl (by decide) (.slice (some ⟨w.heap.size + 1, 0, none⟩) 0 0) 0 [] (by rfl) (by with_reducible exact HF.out) ⟨g, 0, none⟩ k k ((ss.take k).map Value.string) (by rfl) HL1.out (by with_reducible exact HNF.out) (strs_oneL _) (by unfold maxLen; omega) (by omega) (by simp <;> omega) ?_; intro v6 w6 hown6 hgrow6 hnn6; have hb6 : Below w.heap.size w w6 := hbF.grown ⟨hgrow6.os, hgrow6.tape, hgrow6.output, hgrow6.size, hgrow6.block⟩ hbF.size (fun j hj => by cases hj; first | exact Nat.le_refl _ | exact Nat.le_succ _); have hl6 : ∀ j u, [Value.string t][j]? = some u → w6.cell? ((⟨w.heap.size, 0, none⟩ : Addr).add j) = some u := fun j u h => hgrow6.cell (HLF.out j u h) (by rw [addr_add]; simp [Value.ownBlock]); have HO6 : Hid (w6.ownsRow w.heap.size 9 1 v6 k ((ss.take k).map Value.string)) := by { unfold Hid; simpa using hown6 }; have hs6 := hb6.size; clear hown6 hgrow6)
          | (refine step_append_own (by rfl) _ _ 56 (by rfl) w.heap.size 9 i0 (.string ⟨#[]⟩) 1 16 Tryz.underlying56 hi hz0 hz1 hz2 rfl (by decide) v6 k ((ss.take k).map Value.string) (by rfl) (HO6.out.alloc _) ⟨w6.heap.size, 0, none⟩ 1 1 [.string t] (by rfl) rfl (cells_new _ _ _) (str_oneL _) (by unfold maxLen; omega) (by omega) (by first | omega | (simp; omega)) ?_; intro v7 w7 hown7 hgrow7 hnn7; have hb7 : Below w.heap.size w w7 := (hb6.alloc hb6.size (.cells #[.string t] 9)).grown ⟨hgrow7.os, hgrow7.tape, hgrow7.output, hgrow7.size, hgrow7.block⟩ (hb6.alloc hb6.size (.cells #[.string t] 9)).size (fun j hj => (HO6.out.lt j hj).1); have HO7 : Hid (w7.ownsRow w.heap.size 9 1 v7 (k + 1) ((ss.take k).map Value.string ++ [.string t])) := hown7; have HN7 : Hid (v7 ≠ .slice none 0 0) := (fun e => by have := (hnn7.1 e).2; cases this); have hs7 := hb7.size; clear hown7 hgrow7 hnn7)
          | (refine step_append_own (by rfl) _ _ 56 (by rfl) w.heap.size 9 i0 (.string ⟨#[]⟩) 1 16 Tryz.underlying56 hi hz0 hz1 hz2 rfl (by decide) v6 k ((ss.take k).map Value.string) (by rfl) (HO6.out) ⟨w.heap.size + 1, 0, none⟩ 1 1 [.string t] (by rfl) rfl (hl6) (str_oneL _) (by unfold maxLen; omega) (by omega) (by first | omega | (simp; omega)) ?_; intro v7 w7 hown7 hgrow7 hnn7; have hb7 : Below w.heap.size w w7 := (hb6).grown ⟨hgrow7.os, hgrow7.tape, hgrow7.output, hgrow7.size, hgrow7.block⟩ (hb6).size (fun j hj => (HO6.out.lt j hj).1); have HO7 : Hid (w7.ownsRow w.heap.size 9 1 v7 (k + 1) ((ss.take k).map Value.string ++ [.string t])) := hown7; have HN7 : Hid (v7 ≠ .slice none 0 0) := (fun e => by have := (hnn7.1 e).2; cases this); have hs7 := hb7.size; clear hown7 hgrow7 hnn7)
          | (refine step_append_own (by rfl) _ _ 56 (by rfl) w.heap.size 9 i0 (.string ⟨#[]⟩) 1 16 Tryz.underlying56 hi hz0 hz1 hz2 rfl (by decide) v6 k ((ss.take k).map Value.string) (by rfl) (HO6.out) ⟨w.heap.size, 0, none⟩ 1 1 [.string t] (by rfl) rfl (hl6) (str_oneL _) (by unfold maxLen; omega) (by omega) (by first | omega | (simp; omega)) ?_; intro v7 w7 hown7 hgrow7 hnn7; have hb7 : Below w.heap.size w w7 := (hb6).grown ⟨hgrow7.os, hgrow7.tape, hgrow7.output, hgrow7.size, hgrow7.block⟩ (hb6).size (fun j hj => (HO6.out.lt j hj).1); have HO7 : Hid (w7.ownsRow w.heap.size 9 1 v7 (k + 1) ((ss.take k).map Value.string ++ [.string t])) := hown7; have HN7 : Hid (v7 ≠ .slice none 0 0) := (fun e => by have := (hnn7.1 e).2; cases this); have hs7 := hb7.size; clear hown7 hgrow7 hnn7)
          | (refine step_append_own (by rfl) _ _ 56 (by rfl) w.heap.size 9 i0 (.string ⟨#[]⟩) 1 16 Tryz.underlying56 hi hz0 hz1 hz2 rfl (by decide) v7 (k + 1) ((ss.take k).map Value.string ++ [.string t]) (by rfl) HO7.out ⟨g, 0, none⟩ 0 0 [] (by rfl) rfl (by simp) (by simp) (by unfold maxLen; omega) (by omega) (by omega) ?_; intro v8 w8 hown8 hgrow8 hnn8; have hb8 : Below w.heap.size w w8 := hb7.grown ⟨hgrow8.os, hgrow8.tape, hgrow8.output, hgrow8.size, hgrow8.block⟩ hb7.size (fun j hj => (HO7.out.lt j hj).1); have HO8 : Hid (w8.ownsRow w.heap.size 9 1 v8 (k + 1) ((ss.take k ++ [t]).map Value.string)) := (by unfold Hid; rw [List.map_append]; simpa using hown8); have HN8 : Hid (v8 ≠ .slice none 0 0) := (fun e => HN7.out (hnn8.1 e).1); clear hown8 hgrow8 hnn8)
          | fail)
        all_goals
          have hlen : (ss.take k ++ [t]).length = k + 1 := by rw [List.length_append, List.length_take]; simp; omega
          obtain ⟨g', c', hv, ho⟩ := ret_row hlen HO8.out HN8.out
          have HOB : Hid (w8.ownsRow B 9 1 (.slice (some ⟨g', 0, none⟩) (ss.take k ++ [t]).length c') (ss.take k ++ [t]).length ((ss.take k ++ [t]).map Value.string)) := ownsRow_mono ho hB
          have hl2 : (ss.take k ++ [t]).length ≤ ss.length + 1 := by omega
          clear HO8 HO7 HO6 ho hlen HN8 HN7
          generalize ss.take k ++ [t] = S at *
          subst hv
          go_wp2
          go_ret
          exact ⟨g', c', S, rfl, hl2, HOB.out, hb8, HE.out⟩
      · go_wp2_with fail
        go_region_law (first
          | (refine step_append_own (by rfl) _ _ 56 (by rfl) w.heap.size 9 i0 (.string ⟨#[]⟩) 1 16 Tryz.underlying56 hi hz0 hz1 hz2 rfl (by decide) (.slice (some ⟨w.heap.size, 0, none⟩) 0 0) 0 [] (by rfl) (by with_reducible exact HA.out) ⟨g, 0, none⟩ k c ((ss.take k).map Value.string) (by rfl) HL1.out (by with_reducible exact HNA.out) (strs_oneL _) (by unfold maxLen; omega) (by omega) (by simp <;> omega) ?_; intro v6 w6 hown6 hgrow6 hnn6; have hb6 : Below w.heap.size w w6 := hbA.grown ⟨hgrow6.os, hgrow6.tape, hgrow6.output, hgrow6.size, hgrow6.block⟩ hbA.size (fun j hj => by cases hj; first | exact Nat.le_refl _ | exact Nat.le_succ _); have HO6 : Hid (w6.ownsRow w.heap.size 9 1 v6 k ((ss.take k).map Value.string)) := by { unfold Hid; simpa using hown6 }; have hs6 := hb6.size; clear hown6 hgrow6)
          | (refine step_append_own (by rfl) _ _ 56 (by rfl) w.heap.size 9 i0 (.string ⟨#[]⟩) 1 16 Tryz.underlying56 hi hz0 hz1 hz2 rfl (by decide) (.slice (some ⟨w.heap.size, 0, none⟩) 0 0) 0 [] (by rfl) (by with_reducible exact HC.out) ⟨g, 0, none⟩ k c ((ss.take k).map Value.string) (by rfl) HL1.out (by with_reducible exact HNC.out) (strs_oneL _) (by unfold maxLen; omega) (by omega) (by simp <;> omega) ?_; intro v6 w6 hown6 hgrow6 hnn6; have hb6 : Below w.heap.size w w6 := hbC.grown ⟨hgrow6.os, hgrow6.tape, hgrow6.output, hgrow6.size, hgrow6.block⟩ hbC.size (fun j hj => by cases hj; first | exact Nat.le_refl _ | exact Nat.le_succ _); have hl6 : ∀ j u, [Value.string t][j]? = some u → w6.cell? ((⟨w.heap.size + 1, 0, none⟩ : Addr).add j) = some u := fun j u h => hgrow6.cell (HLC.out j u h) (by rw [addr_add]; simp [Value.ownBlock]); have HO6 : Hid (w6.ownsRow w.heap.size 9 1 v6 k ((ss.take k).map Value.string)) := by { unfold Hid; simpa using hown6 }; have hs6 := hb6.size; clear hown6 hgrow6)
          | (refine step_append_own (by rfl) _ _ 56 (by rfl) w.heap.size 9 i0 (.string ⟨#[]⟩) 1 16 Tryz.underlying56 hi hz0 hz1 hz2 rfl (by decide) (.slice (some ⟨w.heap.size + 1, 0, none⟩) 0 0) 0 [] (by rfl) (by with_reducible exact HF.out) ⟨g, 0, none⟩ k c ((ss.take k).map Value.string) (by rfl) HL1.out (by with_reducible exact HNF.out) (strs_oneL _) (by unfold maxLen; omega) (by omega) (by simp <;> omega) ?_; intro v6 w6 hown6 hgrow6 hnn6; have hb6 : Below w.heap.size w w6 := hbF.grown ⟨hgrow6.os, hgrow6.tape, hgrow6.output, hgrow6.size, hgrow6.block⟩ hbF.size (fun j hj => by cases hj; first | exact Nat.le_refl _ | exact Nat.le_succ _); have hl6 : ∀ j u, [Value.string t][j]? = some u → w6.cell? ((⟨w.heap.size, 0, none⟩ : Addr).add j) = some u := fun j u h => hgrow6.cell (HLF.out j u h) (by rw [addr_add]; simp [Value.ownBlock]); have HO6 : Hid (w6.ownsRow w.heap.size 9 1 v6 k ((ss.take k).map Value.string)) := by { unfold Hid; simpa using hown6 }; have hs6 := hb6.size; clear hown6 hgrow6)
          | (refine step_append_own (by rfl) _ _ 56 (by rfl) w.heap.size 9 i0 (.string ⟨#[]⟩) 1 16 Tryz.underlying56 hi hz0 hz1 hz2 rfl (by decide) v6 k ((ss.take k).map Value.string) (by rfl) (HO6.out.alloc _) ⟨w6.heap.size, 0, none⟩ 1 1 [.string t] (by rfl) rfl (cells_new _ _ _) (str_oneL _) (by unfold maxLen; omega) (by omega) (by first | omega | (simp; omega)) ?_; intro v7 w7 hown7 hgrow7 hnn7; have hb7 : Below w.heap.size w w7 := (hb6.alloc hb6.size (.cells #[.string t] 9)).grown ⟨hgrow7.os, hgrow7.tape, hgrow7.output, hgrow7.size, hgrow7.block⟩ (hb6.alloc hb6.size (.cells #[.string t] 9)).size (fun j hj => (HO6.out.lt j hj).1); have HO7 : Hid (w7.ownsRow w.heap.size 9 1 v7 (k + 1) ((ss.take k).map Value.string ++ [.string t])) := hown7; have HN7 : Hid (v7 ≠ .slice none 0 0) := (fun e => by have := (hnn7.1 e).2; cases this); have hs7 := hb7.size; clear hown7 hgrow7 hnn7)
          | (refine step_append_own (by rfl) _ _ 56 (by rfl) w.heap.size 9 i0 (.string ⟨#[]⟩) 1 16 Tryz.underlying56 hi hz0 hz1 hz2 rfl (by decide) v6 k ((ss.take k).map Value.string) (by rfl) (HO6.out) ⟨w.heap.size + 1, 0, none⟩ 1 1 [.string t] (by rfl) rfl (hl6) (str_oneL _) (by unfold maxLen; omega) (by omega) (by first | omega | (simp; omega)) ?_; intro v7 w7 hown7 hgrow7 hnn7; have hb7 : Below w.heap.size w w7 := (hb6).grown ⟨hgrow7.os, hgrow7.tape, hgrow7.output, hgrow7.size, hgrow7.block⟩ (hb6).size (fun j hj => (HO6.out.lt j hj).1); have HO7 : Hid (w7.ownsRow w.heap.size 9 1 v7 (k + 1) ((ss.take k).map Value.string ++ [.string t])) := hown7; have HN7 : Hid (v7 ≠ .slice none 0 0) := (fun e => by have := (hnn7.1 e).2; cases this); have hs7 := hb7.size; clear hown7 hgrow7 hnn7)
          | (refine step_append_own (by rfl) _ _ 56 (by rfl) w.heap.size 9 i0 (.string ⟨#[]⟩) 1 16 Tryz.underlying56 hi hz0 hz1 hz2 rfl (by decide) v6 k ((ss.take k).map Value.string) (by rfl) (HO6.out) ⟨w.heap.size, 0, none⟩ 1 1 [.string t] (by rfl) rfl (hl6) (str_oneL _) (by unfold maxLen; omega) (by omega) (by first | omega | (simp; omega)) ?_; intro v7 w7 hown7 hgrow7 hnn7; have hb7 : Below w.heap.size w w7 := (hb6).grown ⟨hgrow7.os, hgrow7.tape, hgrow7.output, hgrow7.size, hgrow7.block⟩ (hb6).size (fun j hj => (HO6.out.lt j hj).1); have HO7 : Hid (w7.ownsRow w.heap.size 9 1 v7 (k + 1) ((ss.take k).map Value.string ++ [.string t])) := hown7; have HN7 : Hid (v7 ≠ .slice none 0 0) := (fun e => by have := (hnn7.1 e).2; cases this); have hs7 := hb7.size; clear hown7 hgrow7 hnn7)
          | (refine step_append_own (by rfl) _ _ 56 (by rfl) w.heap.size 9 i0 (.string ⟨#[]⟩) 1 16 Tryz.underlying56 hi hz0 hz1 hz2 rfl (by decide) v7 (k + 1) ((ss.take k).map Value.string ++ [.string t]) (by rfl) HO7.out ⟨g, k, none⟩ 0 (c - k) [] (by rfl) rfl (by simp) (by simp) (by unfold maxLen; omega) (by omega) (by omega) ?_; intro v8 w8 hown8 hgrow8 hnn8; have hb8 : Below w.heap.size w w8 := hb7.grown ⟨hgrow8.os, hgrow8.tape, hgrow8.output, hgrow8.size, hgrow8.block⟩ hb7.size (fun j hj => (HO7.out.lt j hj).1); have HO8 : Hid (w8.ownsRow w.heap.size 9 1 v8 (k + 1) ((ss.take k ++ [t]).map Value.string)) := (by unfold Hid; rw [List.map_append]; simpa using hown8); have HN8 : Hid (v8 ≠ .slice none 0 0) := (fun e => HN7.out (hnn8.1 e).1); clear hown8 hgrow8 hnn8)
          | fail)
        all_goals
          have hlen : (ss.take k ++ [t]).length = k + 1 := by rw [List.length_append, List.length_take]; simp; omega
          obtain ⟨g', c', hv, ho⟩ := ret_row hlen HO8.out HN8.out
          have HOB : Hid (w8.ownsRow B 9 1 (.slice (some ⟨g', 0, none⟩) (ss.take k ++ [t]).length c') (ss.take k ++ [t]).length ((ss.take k ++ [t]).map Value.string)) := ownsRow_mono ho hB
          have hl2 : (ss.take k ++ [t]).length ≤ ss.length + 1 := by omega
          clear HO8 HO7 HO6 ho hlen HN8 HN7
          generalize ss.take k ++ [t] = S at *
          subst hv
          go_wp2
          go_ret
          exact ⟨g', c', S, rfl, hl2, HOB.out, hb8, HE.out⟩

end Go.Proofs.YtbifagdcnpnpjaaGreat

/- l2Add, l2Tags, l1Number, l2Cell of the model. -/
namespace Go.Proofs.YtbifagdcnpnpjaaGreat
open Go.RowKit
set_option linter.unusedVariables false

theorem l1Number_any (s : ByteArray) (w : World) (hs : s.size ≤ 1048576) :
    Calls Tryz.prog 110 #[.string s] w fun e w' => ∃ v : Int, e = .returned (.tuple #[.int .i64 v, .bool (numS s)]) ∧ (numT s = true → v = numV s) ∧ w' = w := by
  by_cases h1 : 1 < s.size
  · have h1i : (1 : Int) < (s.size : Int) := by omega
    have hbe := byteAt_eq s 0 (by omega)
    by_cases hb : byteAt s 0 = 45
    · have hbb : (((s[0]'(by omega)).toNat : Int) == 45) = true := by rw [← hbe, hb]; rfl
      have HN : Hid (numS s = decide (0 < figR (s.extract 1 s.size))) := by unfold Hid numS; rw [show (decide (1 < s.size) && decide (byteAt s 0 = 45)) = true from by simp [h1, hb]]; rfl
      have hbl : below0 s = true := by unfold below0; simp [hb]; omega
      have HV : Hid (numT s = true → -(figR (s.extract 1 s.size)) = numV s) := fun h => by
        unfold numT at h
        rw [hbl] at h
        simp only [if_true, Bool.and_eq_true] at h
        unfold numV
        rw [hbl, figR_yes h.1]
        rfl
      have hfb : -1 ≤ figR (s.extract 1 s.size) ∧ figR (s.extract 1 s.size) ≤ 999999999 := by
        cases hf : figB (s.extract 1 s.size) with
        | false => rw [figR_no hf]; omega
        | true => rw [figR_yes hf]; have := numB_bd _ hf; omega
      clear hbe
      go_enter Tryz.func110, Tryz.ntmps110
      go_wp2_with fail
      refine (l1Figures_any (s.extract 1 s.size) _ (by rw [ByteArray.size_extract]; omega)).mono ?_
      rintro e w1 ⟨rfl, rfl⟩
      generalize figR (s.extract 1 s.size) = r at *
      go_wp2
      go_ret2
      exact ⟨-r, by rw [HN.out]; rfl, HV.out, rfl⟩
    · have hbb : (((s[0]'(by omega)).toNat : Int) == 45) = false := by rw [← hbe]; simpa using hb
      have HN : Hid (numS s = decide (0 ≤ figR s)) := by unfold Hid numS; rw [show (decide (1 < s.size) && decide (byteAt s 0 = 45)) = false from by simp [hb]]; rfl
      have hbl : below0 s = false := by unfold below0; simp [hb]
      have HV : Hid (numT s = true → figR s = numV s) := fun h => by
        unfold numT at h
        rw [hbl] at h
        simp only [Bool.false_eq_true, if_false] at h
        unfold numV
        rw [hbl, figR_yes h]
        rfl
      clear hbe
      go_enter Tryz.func110, Tryz.ntmps110
      go_wp2_with fail
      refine (l1Figures_any s _ hs).mono ?_
      rintro e w1 ⟨rfl, rfl⟩
      generalize figR s = r at *
      go_wp2
      go_ret2
      exact ⟨r, by rw [HN.out]; rfl, HV.out, rfl⟩
  · have h1i : decide ((1 : Int) < (s.size : Int)) = false := decide_eq_false (by omega)
    have HN : Hid (numS s = decide (0 ≤ figR s)) := by unfold Hid numS; rw [show (decide (1 < s.size) && decide (byteAt s 0 = 45)) = false from by simp; omega]; rfl
    have HV : Hid (numT s = true → figR s = numV s) := fun h => by
      cases hbl : below0 s with
      | false =>
        unfold numT at h
        rw [hbl] at h
        simp only [Bool.false_eq_true, if_false] at h
        unfold numV
        rw [hbl, figR_yes h]
        rfl
      | true =>
        rw [← num_same] at h
        unfold below0 at hbl
        simp only [Bool.and_eq_true, decide_eq_true_eq] at hbl
        unfold numS at h
        rw [show (decide (1 < s.size) && decide (byteAt s 0 = 45)) = false from by simp; omega] at h
        simp only [Bool.false_eq_true, if_false, decide_eq_true_eq] at h
        rw [figR_no (figB_dash hbl.1 hbl.2)] at h
        omega
    go_enter Tryz.func110, Tryz.ntmps110
    go_wp2_with fail
    refine (l1Figures_any s _ hs).mono ?_
    rintro e w1 ⟨rfl, rfl⟩
    generalize figR s = r at *
    go_wp2
    go_ret2
    exact ⟨r, by rw [HN.out]; rfl, HV.out, rfl⟩
end Go.Proofs.YtbifagdcnpnpjaaGreat

/- l2Form answers as docHasForm does. -/
namespace Go.Proofs.YtbifagdcnpnpjaaGreat
open Go.RowKit

theorem nameS_val (s : ByteArray) (v : Bool) (w : World) (hs : s.size ≤ 1048576) (hv : nameI s = v) : Calls Tryz.prog 84 #[.string s] w fun e w' => e = .returned (.bool v) ∧ w' = w := by
  refine (nameS_any s w (by unfold maxLen; omega)).mono ?_
  rintro e w' ⟨rfl, rfl⟩
  rw [← hv, name_same]
  exact ⟨rfl, rfl⟩
theorem textS_val (s : ByteArray) (v : Bool) (w : World) (hs : s.size ≤ 1048576) (hv : textB s = v) : Calls Tryz.prog 112 #[.string s] w fun e w' => e = .returned (.bool v) ∧ w' = w := by
  rw [← hv]
  exact l2Text_any s w (by unfold maxLen; omega)

set_option maxHeartbeats 4000000 in
theorem l2Form_any (key : ByteArray) (a : Option Addr) (cap : Nat) (cs : List Cel) (w : World) (hk : key.size ≤ 1048576) (hz : cs.length ≤ 1048576) (hsm : CelsSmall cs) (hr : CelRow w a cs) :
    Calls Tryz.prog 83 #[.agg #[.string key, .slice a cs.length cap]] w fun e w' => e = .returned (.bool (formB key cs)) ∧ Below w.heap.size w w' := by
  have hb0 : Below w.heap.size w (w.alloc (.cells #[.string key, .slice a cs.length cap] 39)) := (Below.refl _ w).alloc (Nat.le_refl _) _
  have HB0 : Hid (Blk (w.alloc (.cells #[.string key, .slice a cs.length cap] 39)) w.heap.size #[.string key, .slice a cs.length cap] 39) := Blk.new w _ _
  go_enter Tryz.func83, Tryz.ntmps83
  go_wp2
  go_loopw [3] (fun i wr => ∃ k : Nat, k ≤ cs.length ∧ i = .int .i64 k ∧ allTo (celOk cs) k = true ∧ Blk wr w.heap.size #[.string key, .slice a cs.length cap] 39 ∧ Below w.heap.size w wr) (fun i _ => cs.length - (intOf i).toNat)
  case atStart => exact ⟨0, Nat.zero_le _, rfl, rfl, HB0.out, hb0⟩
  case round =>
    clear HB0 hb0
    obtain ⟨k, hkk, rfl, ha, hblk, hbel⟩ := hrel
    have HA : Hid (allTo (celOk cs) k = true) := ha
    clear ha
    have hbl := hblk.lt
    have e0 : wr.cell? ⟨w.heap.size, 0, none⟩ = some (.string key) := hblk.cell 0
    by_cases hlt : k < cs.length
    · have hkl : (k : Int) < (cs.length : Int) := by omega
      obtain ⟨g, off, rfl, hg, hc⟩ := (hr.below hbel) (by omega)
      obtain ⟨c0, c1⟩ := hc k hlt
      obtain ⟨hs0, hs1⟩ := hsm k hlt
      have e1 : wr.cell? ⟨w.heap.size, 1, none⟩ = some (.slice (some ⟨g, off, none⟩) cs.length cap) := hblk.cell 1
      have HBK : Hid (Blk wr w.heap.size #[.string key, .slice (some ⟨g, off, none⟩) cs.length cap] 39) := hblk
      have HNO : Hid (celOk cs k = false → formB key cs = false) := formB_no key cs k hlt
      have HCO : Hid (celOk cs k = (ordB cs k && nameI (cat cs k).name && textB (cat cs k).text)) := rfl
      clear hblk e0
      cases h1 : nameI (cat cs k).name with
      | false =>
        have hb : Hid (formB key cs = false) := HNO.out (by rw [HCO.out, h1]; simp)
        have V1 : Hid (∀ n, Calls Tryz.prog 84 #[.string (cat cs k).name] (wr.drewN n) fun e w' => e = .returned (.bool false) ∧ w' = wr.drewN n) := fun n => nameS_val _ _ _ hs0 h1
        clear HCO HNO h1
        generalize cat cs k = cl at *
        obtain ⟨nm, tx⟩ := cl
        simp only at c0 c1 hs0 hs1 V1
        clear hr hc hsm HA HBK
        go_wp2
        go_quiet ((go_at_call 84; with_reducible exact Calls.quiet_of_same (V1.out _)))
        go_wp2
        go_ret
        exact ⟨ret_bool hb.out.symm, below_drewN hbel _⟩
      | true =>
        have V1 : Hid (∀ n, Calls Tryz.prog 84 #[.string (cat cs k).name] (wr.drewN n) fun e w' => e = .returned (.bool true) ∧ w' = wr.drewN n) := fun n => nameS_val _ _ _ hs0 h1
        cases h2 : textB (cat cs k).text with
        | false =>
          have hb : Hid (formB key cs = false) := HNO.out (by rw [HCO.out, h2]; simp)
          have V2 : Hid (∀ n, Calls Tryz.prog 112 #[.string (cat cs k).text] (wr.drewN n) fun e w' => e = .returned (.bool false) ∧ w' = wr.drewN n) := fun n => textS_val _ _ _ hs1 h2
          clear HCO HNO h1 h2
          generalize cat cs k = cl at *
          obtain ⟨nm, tx⟩ := cl
          simp only at c0 c1 hs0 hs1 V1 V2
          clear hr hc hsm HA HBK
          go_wp2
          go_quiet ((first | (go_at_call 84; with_reducible exact Calls.quiet_of_same (V1.out _)) | (go_at_call 112; with_reducible exact Calls.quiet_of_same (V2.out _))))
          go_wp2
          go_ret
          exact ⟨ret_bool hb.out.symm, below_drewN hbel _⟩
        | true =>
          have V2 : Hid (∀ n, Calls Tryz.prog 112 #[.string (cat cs k).text] (wr.drewN n) fun e w' => e = .returned (.bool true) ∧ w' = wr.drewN n) := fun n => textS_val _ _ _ hs1 h2
          have HCK : Hid (celOk cs k = ordB cs k) := by unfold Hid; rw [HCO.out, h1, h2]; simp
          clear HCO h1 h2
          rcases Nat.eq_zero_or_pos k with rfl | hkp
          · have HS : Hid (allTo (celOk cs) (0 + 1) = true) := allTo_snoc _ 0 HA.out (by rw [HCK.out]; simp [ordB])
            generalize cat cs 0 = cl at *
            obtain ⟨nm, tx⟩ := cl
            simp only [Nat.zero_mul, Nat.add_zero] at c0 c1 hs0 hs1 V1 V2
            have i3 : decide ((0 : Int) < ((0 : Nat) : Int)) = false := by simp
            clear hr hc hsm HNO HA HCK
            go_wp2
            go_quiet ((first | (go_at_call 84; with_reducible exact Calls.quiet_of_same (V1.out _)) | (go_at_call 112; with_reducible exact Calls.quiet_of_same (V2.out _))))
            go_wp2
            go_roundw
            case rel => exact ⟨0 + 1, by omega, by go_num, HS.out, HBK.out, below_drewN hbel _⟩
            case measure => simp [intOf]; omega
          · obtain ⟨j, rfl⟩ : ∃ j, k = j + 1 := ⟨k - 1, by omega⟩
            have HOR : Hid (ordB cs (j + 1) = Op.bytesLess (cat cs j).name.toList (cat cs (j + 1)).name.toList) := by unfold Hid; simp [ordB]
            have p0 := (hc j (by omega)).1
            have i1 : (j : Int) + 1 < (cs.length : Int) := by omega
            have i2 : (j : Int) < (cs.length : Int) := by omega
            have i3 : (0 : Int) < (j : Int) + 1 := by omega
            cases ho : Op.bytesLess (cat cs j).name.toList (cat cs (j + 1)).name.toList with
            | false =>
              have hb : Hid (formB key cs = false) := HNO.out (by rw [HCK.out, HOR.out, ho])
              clear HOR HCK HNO
              generalize (cat cs j).name = pn at *
              generalize cat cs (j + 1) = cl at *
              obtain ⟨nm, tx⟩ := cl
              simp only at c0 c1 hs0 hs1 ho V1 V2
              clear hr hc hsm HA HBK
              go_wp2
              go_quiet ((first | (go_at_call 84; with_reducible exact Calls.quiet_of_same (V1.out _)) | (go_at_call 112; with_reducible exact Calls.quiet_of_same (V2.out _))))
              go_wp2
              go_ret
              exact ⟨ret_bool hb.out.symm, below_drewN hbel _⟩
            | true =>
              have HS : Hid (allTo (celOk cs) (j + 1 + 1) = true) := allTo_snoc _ (j + 1) HA.out (by rw [HCK.out, HOR.out, ho])
              clear HOR HCK HNO
              generalize (cat cs j).name = pn at *
              generalize cat cs (j + 1) = cl at *
              obtain ⟨nm, tx⟩ := cl
              simp only at c0 c1 hs0 hs1 ho V1 V2
              clear hr hc hsm HA
              go_wp2
              go_quiet ((first | (go_at_call 84; with_reducible exact Calls.quiet_of_same (V1.out _)) | (go_at_call 112; with_reducible exact Calls.quiet_of_same (V2.out _))))
              go_wp2
              go_roundw
              case rel => exact ⟨j + 1 + 1, by omega, by go_num, HS.out, HBK.out, below_drewN hbel _⟩
              case measure => simp [intOf]; omega
    · have hkl : k = cs.length := by omega
      subst hkl
      have e1 : wr.cell? ⟨w.heap.size, 1, none⟩ = some (.slice a cs.length cap) := hblk.cell 1
      have hb : Hid (formB key cs = (nameI key && decide ((cs.length : Int) ≤ 4))) := by
        unfold Hid formB
        rw [HA.out, Bool.and_true]
        congr 1
        exact decide_eq_decide.2 (by omega)
      clear hr hsm hblk
      cases hn : nameI key with
      | false =>
        go_wp2_with fail
        refine (nameS_val key false _ hk hn).mono ?_
        rintro e w5 ⟨rfl, rfl⟩
        go_wp2
        go_ret
        exact ⟨ret_bool (by rw [hb.out, hn]; rfl), hbel⟩
      | true =>
        go_wp2_with fail
        refine (nameS_val key true _ hk hn).mono ?_
        rintro e w5 ⟨rfl, rfl⟩
        go_wp2
        go_ret
        exact ⟨ret_bool (by rw [hb.out, hn]; simp), hbel⟩
end Go.Proofs.YtbifagdcnpnpjaaGreat

/- l2Tags, l2Cell, DocOk of the model. -/
namespace Go.Proofs.YtbifagdcnpnpjaaGreat
open Go.RowKit
set_option linter.unusedVariables false

theorem insTo_succ (ps : List ByteArray) (k : Nat) (h : k < ps.length) : (ps.take (k + 1)).foldl addL [] = addL ((ps.take k).foldl addL []) (pat ps k) := by
  rw [List.take_add_one, List.getElem?_eq_getElem h, List.foldl_append, pat_get _ _ h]
  rfl
theorem tparts_cuts (s : ByteArray) : cuts 44 (s.size + 1) s = tparts s := cuts_enough 44 (s.size + 1) s (by have := manyB_le 44 s; omega)
set_option maxRecDepth 100000 in
set_option maxHeartbeats 2000000 in
theorem l2TagsX_any (s : ByteArray) (w : World) (hs : s.size ≤ 1048576) :
    Calls Tryz.prog 111 #[.string s] w fun e w' => ∃ (g c : Nat) (ss : List ByteArray), e = .returned (.tuple #[.slice (some ⟨g, 0, none⟩) ss.length c, .bool (tagT s)]) ∧ (tagT s = true → ss = insAll (tparts s)) ∧ w'.ownsRow w.heap.size 9 1 (.slice (some ⟨g, 0, none⟩) ss.length c) ss.length (ss.map Value.string) ∧ Below w.heap.size w w' := by
  have hlen : (tparts s).length = manyB 44 s + 1 := cuts_full_len 44 s
  have hmn := manyB_le 44 s
  have HSZ : Hid (∀ i, i < (tparts s).length → (pat (tparts s) i).size ≤ 1048576) := fun i hi => by have := pat_size 44 (manyB 44 s) s i hi; unfold tparts; omega
  have HCU : Hid (∀ wx, Calls Tryz.prog 129 #[.string s, .int .u8 44, .int .i64 ((s.size : Int) + 1)] wx fun e w' => ∃ v, e = .returned v ∧ w'.ownsRow wx.heap.size 9 1 v (tparts s).length ((tparts s).map Value.string) ∧ Below wx.heap.size wx w') := fun wx => by
    have := l1Cut_any s 44 44 rfl (s.size + 1) wx hs (by omega)
    rw [tparts_cuts, show ((s.size + 1 : Nat) : Int) = (s.size : Int) + 1 by omega] at this
    exact this
  obtain ⟨ps, hps⟩ : ∃ ps, tparts s = ps := ⟨_, rfl⟩
  rw [hps]
  have HI : Hid (tagT s = (ps.all nameI && decide (ps.length ≤ 4))) := by unfold Hid tagT; rw [hps]
  rw [hps] at hlen HSZ HCU
  have hpl : ps.length ≤ 1048577 := by omega
  clear hlen hmn hps
  have hlit : (w.alloc (.cells #[] 9)).ownsRow w.heap.size 9 1 (.slice (some ⟨w.heap.size, 0, none⟩) 0 0) 0 [] := World.ownsRow_lit w #[] 0 (Nat.le_refl _) (by decide) rfl
  have hb0 : Below w.heap.size w (w.alloc (.cells #[] 9)) := (Below.refl _ w).alloc (Nat.le_refl _) _
  go_enter Tryz.func111, Tryz.ntmps111
  go_wp2_with fail
  refine (HCU.out _).mono ?_
  rintro e w1 ⟨v, rfl, hown, hb1⟩
  obtain ⟨p, c, rfl, hrow⟩ := owns_strRow hown
  have HR : Hid (StrRow w1 p ps) := hrow
  have HO1 : Hid (w1.ownsRow w.heap.size 9 1 (.slice (some ⟨w.heap.size, 0, none⟩) 0 0) 0 []) := hlit.kept (grown_none hb1) (Classical.em _)
  have hw1 := below_trans hb0 hb1
  clear hown hlit hb0 hb1 hrow HCU
  go_wp2
  go_loopw [4, 6] (fun v0 i wr => ∃ (k g' c' : Nat) (ss : List ByteArray), k ≤ ps.length ∧ i = .int .i64 k ∧ v0 = .slice (some ⟨g', 0, none⟩) ss.length c' ∧ ss.length ≤ k ∧ ss = (ps.take k).foldl addL [] ∧ wr.ownsRow w.heap.size 9 1 (.slice (some ⟨g', 0, none⟩) ss.length c') ss.length (ss.map Value.string) ∧ allTo (fun j => nameI (pat ps j)) k = true ∧ Below w1.heap.size w1 wr) (fun _ i _ => ps.length - (intOf i).toNat)
  case atStart => exact ⟨0, _, _, [], Nat.zero_le _, rfl, rfl, Nat.le_refl _, rfl, HO1.out, rfl, Below.refl _ _⟩
  case round =>
    obtain ⟨k, g', c', ss, hk, rfl, rfl, hsk, hss, hown, ha, hbel⟩ := hrel
    have HSS : Hid (ss = (ps.take k).foldl addL []) := hss
    clear hss
    have HA : Hid (allTo (fun j => nameI (pat ps j)) k = true) := ha
    clear ha
    have hw2 := below_trans hw1 hbel
    by_cases hlt : k < ps.length
    · have hks : (k : Int) < (ps.length : Int) := by omega
      obtain ⟨g, rfl, hg, hc⟩ := (HR.out.below hbel) (by omega)
      have c1 : wr.cell? ⟨g, k, none⟩ = some (.string (pat ps k)) := hc k hlt
      have hz := HSZ.out k hlt
      have HNO : Hid (nameI (pat ps k) = false → ps.all nameI = false) := fun h => by
        rw [List.all_eq_false]
        exact ⟨ps[k], List.getElem_mem _, by rw [← pat_get _ _ hlt, h]; decide⟩
      have HYS : Hid (nameI (pat ps k) = true → allTo (fun j => nameI (pat ps j)) (k + 1) = true) := fun h => allTo_snoc _ k HA.out h
      have HOW : Hid (wr.ownsRow w.heap.size 9 1 (.slice (some ⟨g', 0, none⟩) ss.length c') ss.length (ss.map Value.string)) := hown
      have HSN : Hid (addL ss (pat ps k) = (ps.take (k + 1)).foldl addL []) := by unfold Hid; rw [insTo_succ ps k hlt, ← HSS.out]
      clear hc hown HSS
      generalize pat ps k = q at *
      have HQ : Hid (nameI q = nameS q) := name_same q
      go_wp2_with fail
      refine (nameS_any q _ (by unfold maxLen; omega)).mono ?_
      rintro e _ ⟨rfl, rfl⟩
      cases hb : nameS q with
      | false =>
        have HB : Hid (tagT s = false) := by unfold Hid; rw [HI.out, HNO.out (by rw [HQ.out, hb])]; rfl
        go_wp2
        go_ret2
        exact ⟨_, 0, [], by rw [HB.out]; rfl, (fun h => by rw [HB.out] at h; cases h), ownsRow_mono (World.ownsRow_lit _ #[] 0 (Nat.le_refl _) (by decide) rfl) hw2.size, hw2.alloc hw2.size _⟩
      | true =>
        have HYH : Hid (allTo (fun j => nameI (pat ps j)) (k + 1) = true) := HYS.out (by rw [HQ.out, hb])
        go_wp2_with fail
        refine (l2Add_any w.heap.size g' c' ss q _ (by omega) hw2.size HOW.out).mono ?_
        rintro e w3 ⟨g3, c3, ss3, rfl, hl3, ho3, hb3, he3⟩
        have HS3 : Hid (ss3 = (ps.take (k + 1)).foldl addL []) := he3.trans HSN.out
        have HO3 : Hid (w3.ownsRow w.heap.size 9 1 (.slice (some ⟨g3, 0, none⟩) ss3.length c3) ss3.length (ss3.map Value.string)) := ho3
        clear ho3 HOW c1 he3 HSN
        go_wp2
        go_roundw
        case rel => exact ⟨k + 1, g3, c3, ss3, by omega, by go_num, rfl, by omega, HS3.out, HO3.out, HYH.out, hbel.trans (hb3.mono hbel.size)⟩
        case measure => simp [intOf]; omega
    · have hkl : k = ps.length := by omega
      have HB : Hid (tagT s = decide ((ps.length : Int) ≤ 4)) := by
        unfold Hid
        rw [HI.out, show ps.all nameI = true from by
          rw [List.all_eq_true]
          intro x hx
          obtain ⟨i, hi, rfl⟩ := List.getElem_of_mem hx
          have := (allTo_iff _ _).1 HA.out i (by omega)
          rw [← pat_get _ _ hi]
          exact this, Bool.true_and]
        exact decide_eq_decide.2 (by omega)
      have HSE : Hid (ss = insAll ps) := by unfold Hid insAll; rw [HSS.out, hkl, List.take_length]
      have HOW : Hid (wr.ownsRow w.heap.size 9 1 (.slice (some ⟨g', 0, none⟩) ss.length c') ss.length (ss.map Value.string)) := hown
      clear hown HSS
      subst hkl
      go_wp2
      go_ret2
      exact ⟨_, _, _, by rw [HB.out]; rfl, fun _ => HSE.out, HOW.out, hw2⟩
theorem l2Tags_any (s : ByteArray) (w : World) (hs : s.size ≤ 1048576) :
    Calls Tryz.prog 111 #[.string s] w fun e w' => ∃ (g n c : Nat), e = .returned (.tuple #[.slice (some ⟨g, 0, none⟩) n c, .bool (tagT s)]) ∧ Below w.heap.size w w' := by
  refine (l2TagsX_any s w hs).mono ?_
  rintro e w' ⟨g, c, ss, rfl, _, _, hb⟩
  exact ⟨g, ss.length, c, rfl, hb⟩

set_option maxHeartbeats 2000000 in
theorem l2Cell_any (n : ByteArray) (kd wt : Int) (s : ByteArray) (w : World) (hs : s.size ≤ 1048576) :
    Calls Tryz.prog 82 #[.agg #[.string n, .int .i64 kd, .int .i64 wt], .string s] w fun e w' => e = .returned (.bool (cellS kd s)) ∧ Below w.heap.size w w' := by
  have hb0 : Below w.heap.size w (w.alloc (.cells #[.string n, .int .i64 kd, .int .i64 wt] 123)) := (Below.refl _ w).alloc (Nat.le_refl _) _
  have B0 := Blk.new w #[.string n, .int .i64 kd, .int .i64 wt] 123
  have hl0 := B0.lt
  have HC : Hid (cellS kd s = (textB s && (kd == 1 || (kd == 2 && numS s) || (kd == 3 && tagT s)))) := rfl
  go_enter Tryz.func82, Tryz.ntmps82
  go_wp2_with fail
  refine (l1Number_any s _ hs).mono ?_
  rintro e w1 ⟨v, rfl, _, rfl⟩
  go_wp2_with fail
  refine (l2Tags_any s _ hs).mono ?_
  rintro e w2 ⟨g, m, c, rfl, hb2⟩
  have B2 := B0.below hb2 hl0
  have k1 := B2.cell 1
  simp at k1
  have hw2 := below_trans hb0 hb2
  clear B0 B2 hb2 hb0
  generalize numS s = bn at *
  generalize tagT s = bt at *
  go_wp2_with fail
  refine (l2Text_any s _ (by unfold maxLen; omega)).mono ?_
  rintro e w3 ⟨rfl, rfl⟩
  cases h1 : textB s with
  | false =>
    rw [h1] at HC
    go_wp2
    go_ret
    exact ⟨ret_bool HC.out.symm, hw2⟩
  | true =>
    rw [h1, Bool.true_and] at HC
    by_cases e1 : kd = 1
    · subst e1
      go_wp2
      go_ret
      exact ⟨ret_bool (by rw [HC.out]; rfl), hw2⟩
    have e1b : (kd == 1) = false := by simpa using e1
    by_cases e2 : kd = 2
    · subst e2
      cases bn
      all_goals
        go_wp2
        go_ret
        exact ⟨ret_bool (by rw [HC.out]; rfl), hw2⟩
    have e2b : (kd == 2) = false := by simpa using e2
    by_cases e3 : kd = 3
    · subst e3
      cases bt
      all_goals
        go_wp2
        go_ret
        exact ⟨ret_bool (by rw [HC.out]; rfl), hw2⟩
    have e3b : (kd == 3) = false := by simpa using e3
    rw [e1b, e2b, e3b] at HC
    go_wp2
    go_ret
    exact ⟨ret_bool (by rw [HC.out]; rfl), hw2⟩
end Go.Proofs.YtbifagdcnpnpjaaGreat

/- DocOk of the model. -/
namespace Go.Proofs.YtbifagdcnpnpjaaGreat
open Go.RowKit
set_option linter.unusedVariables false

theorem wpStill_want {P : Program} {ops : Array Oper} {w : World} {Q : Act → Prop} {a : Act} {o : Oper} {rest : List Oper} (hw : Region.wanted o (yielded ops a.tmps) = true)
    (h : ∀ K : Act → Prop, (∀ a, wpStill P ops w Q rest a → K a) → o.still P a w K) : wpStill P ops w Q (o :: rest) a := by
  unfold wpStill
  rw [if_pos hw]
  exact h _ (fun _ h => h)
theorem oneK_want {P : Program} {l : List Oper} {n : Nat} {Q : Exit → Act → World → Prop} {o : Oper} {w : World} {a : Act} (hw : Region.wanted o (yielded l.toArray a.tmps) = true)
    (h : o.wp P a w (fun a' w' => RestK P l n Q w' a') Q) : OneK P l n Q o w a := by
  unfold OneK
  rw [if_pos hw]
  exact h
/-- As the model goes through the cells. -/
def scelOk (fs : List Fld) (cs : List Cel) (i : Nat) : Bool := decide (fidx fs (cat cs i).name < fs.length) && cellS (fat fs (fidx fs (cat cs i).name)).kind (cat cs i).text
theorem kind_of {fs : List Fld} (h : fieldsB fs = true) (k : Nat) (hk : k < fs.length) : (fat fs k).kind = 1 ∨ (fat fs k).kind = 2 ∨ (fat fs k).kind = 3 := by
  simp only [fieldsB, Bool.and_eq_true, decide_eq_true_eq, allTo_iff] at h
  have h2 := h.2 k hk
  simp only [fldOk, Bool.and_eq_true] at h2
  have h3 := h2.2
  unfold wOk at h3
  by_cases e1 : (fat fs k).kind = 1
  · exact .inl e1
  by_cases e2 : (fat fs k).kind = 2
  · exact .inr (.inl e2)
  by_cases e3 : (fat fs k).kind = 3
  · exact .inr (.inr e3)
  simp [e1, e2, e3] at h3
theorem scel_same {fs : List Fld} {key : ByteArray} {cs : List Cel} (hf : fieldsB fs = true) (hg : formB key cs = true) (k : Nat) (hk : k < cs.length) : scelOk fs cs k = dcelOk fs cs k := by
  unfold scelOk dcelOk
  by_cases hi : fidx fs (cat cs k).name < fs.length
  · rw [decide_eq_true hi, Bool.true_and, Bool.true_and]
    refine cell_same (kind_of hf _ hi) ?_
    simp only [formB, Bool.and_eq_true, allTo_iff] at hg
    have := hg.2 k hk
    simp only [celOk, Bool.and_eq_true] at this
    first | exact this.2 | exact this.1.2 | exact this.1.1
  · rw [decide_eq_false hi]
    rfl
theorem doc_end {fs : List Fld} {key : ByteArray} {cs : List Cel} (h : allTo (scelOk fs cs) cs.length = true) : docOkB fs key cs = (fieldsB fs && formB key cs) := by
  unfold docOkB
  cases hf : fieldsB fs with
  | false => rfl
  | true =>
    cases hg : formB key cs with
    | false => rfl
    | true =>
      rw [show allTo (dcelOk fs cs) cs.length = true from (allTo_iff _ _).2 fun j hj => by rw [← scel_same hf hg j hj]; exact (allTo_iff _ _).1 h j hj]
      rfl
theorem doc_no {fs : List Fld} {key : ByteArray} {cs : List Cel} {k : Nat} (hk : k < cs.length) (h : scelOk fs cs k = false) : docOkB fs key cs = false := by
  cases hf : fieldsB fs with
  | false => unfold docOkB; rw [hf]; rfl
  | true =>
    cases hg : formB key cs with
    | false => unfold docOkB; rw [hf, hg]; rfl
    | true => exact docOk_no hk (by rw [← scel_same hf hg k hk]; exact h)

set_option maxRecDepth 100000 in
set_option maxHeartbeats 1000000 in
theorem docOkS_any (a : Option Addr) (capf : Nat) (fs : List Fld) (key : ByteArray) (p : Option Addr) (capc : Nat) (cs : List Cel) (w : World) (hzf : fs.length ≤ 1048576) (hsf : FldsSmall fs) (hrf : FldRow w a fs)
    (hk : key.size ≤ 1048576) (hzc : cs.length ≤ 1048576) (hsc : CelsSmall cs) (hrc : CelRow w p cs) :
    Calls Tryz.prog 40 #[.slice a fs.length capf, .agg #[.string key, .slice p cs.length capc]] w fun e w' => e = .returned (.bool (docOkB fs key cs)) ∧ Below w.heap.size w w' := by
  have hb0 : Below w.heap.size w (w.alloc (.cells #[.string key, .slice p cs.length capc] 39)) := (Below.refl _ w).alloc (Nat.le_refl _) _
  have B0 := Blk.new w #[.string key, .slice p cs.length capc] 39
  have HSC : Hid (CelsSmall cs) := hsc
  have HRF : Hid (FldRow (w.alloc (.cells #[.string key, .slice p cs.length capc] 39)) a fs) := hrf.below hb0
  have HRC : Hid (CelRow (w.alloc (.cells #[.string key, .slice p cs.length capc] 39)) p cs) := hrc.below hb0
  have HFS : Hid (∀ wx, FldRow wx a fs → Calls Tryz.prog 43 #[.slice a fs.length capf] wx fun e w' => e = .returned (.bool (fieldsB fs)) ∧ Below wx.heap.size wx w') := fun wx h => fieldsS_any a capf fs wx hzf hsf h
  clear hsc hrf hrc hsf
  go_enter Tryz.func40, Tryz.ntmps40
  obtain ⟨W, hW⟩ : ∃ W, w.alloc (.cells #[.string key, .slice p cs.length capc] 39) = W := ⟨_, rfl⟩
  rw [hW] at hb0 B0 HRF HRC
  have hl0 := B0.lt
  go_wp2
  clear hW
  go_loopw [5] (fun i wr => ∃ k : Nat, k ≤ cs.length ∧ i = .int .i64 k ∧ allTo (scelOk fs cs) k = true ∧ Below W.heap.size W wr) (fun i _ => cs.length - (intOf i).toNat)
  case atStart => exact ⟨0, Nat.zero_le _, rfl, rfl, Below.refl _ _⟩
  case round =>
    obtain ⟨k, hk2, rfl, ha, hbel⟩ := hrel
    have HA : Hid (allTo (scelOk fs cs) k = true) := ha
    clear ha
    have hbw := below_trans hb0 hbel
    have B1 := B0.below hbel hl0
    have k0 := B1.cell 0
    have k1 := B1.cell 1
    simp at k0 k1
    by_cases hlt : k < cs.length
    · have hks : (k : Int) < (cs.length : Int) := by omega
      have hrc := HRC.out.below hbel
      have HRF1 : Hid (FldRow wr a fs) := HRF.out.below hbel
      obtain ⟨g, off, rfl, hg, hc⟩ := hrc (by omega)
      obtain ⟨c0, c1⟩ := hc k hlt
      have hsz := HSC.out k hlt
      have HNO : Hid (scelOk fs cs k = false → docOkB fs key cs = false) := doc_no hlt
      have HYS : Hid (scelOk fs cs k = true → allTo (scelOk fs cs) (k + 1) = true) := fun h => allTo_snoc _ k HA.out h
      have HDF : Hid (scelOk fs cs k = (decide (fidx fs (cat cs k).name < fs.length) && cellS (fat fs (fidx fs (cat cs k).name)).kind (cat cs k).text)) := rfl
      generalize cat cs k = cl at *
      obtain ⟨nm, tx⟩ := cl
      simp only at c0 c1 hsz HDF
      clear hc hrc
      go_wp2_with fail
      refine (l2Field_any a capf fs nm _ hzf HRF1.out).mono ?_
      rintro e w2 ⟨q, rfl, hpos, rfl⟩
      rcases fpos_idx hpos with ⟨j, rfl, hj, hfi⟩ | ⟨rfl, hfi⟩
      · have hj0 : decide ((j : Int) < 0) = false := decide_eq_false (by omega)
        have hji : (j : Int) < (fs.length : Int) := by omega
        obtain ⟨gf, of, rfl, hgf, hcf⟩ := HRF1.out (by omega)
        obtain ⟨f0, f1, f2⟩ := hcf j hj
        have HDF2 : Hid (scelOk fs cs k = cellS (fat fs j).kind tx) := by unfold Hid; rw [HDF.out, hfi, decide_eq_true hj]; rfl
        generalize fat fs j = ff at *
        obtain ⟨fn, kd, wt⟩ := ff
        simp only at f0 f1 f2 HDF2
        clear HDF hfi hpos hcf
        go_wp2
        refine wp_region_still_one 13 (by kernel_rfl) (by kernel_rfl) rfl ?_
        simp only [List.take_succ_cons, List.take_zero]
        still_step
        still_step
        still_step
        refine wpStill_want rfl (fun K hK => ?_)
        go_simp
        refine hK _ ?_
        clear hK K
        refine wpStill_want rfl (fun K hK => ?_)
        go_simp
        refine hK _ ?_
        clear hK K
        refine wpStill_want rfl (fun K hK => ?_)
        go_simp
        refine hK _ ?_
        clear hK K
        refine wpStill_want rfl (fun K hK => ?_)
        go_simp
        refine hK _ ?_
        clear hK K
        refine wpStill_want rfl (fun K hK => ?_)
        go_simp
        refine hK _ ?_
        clear hK K
        refine wpStill_want rfl (fun K hK => ?_)
        go_simp
        refine hK _ ?_
        clear hK K
        refine wpStill_want rfl (fun K hK => ?_)
        go_simp
        refine hK _ ?_
        clear hK K
        refine wpStill_want rfl (fun K hK => ?_)
        go_simp
        refine hK _ ?_
        clear hK K
        refine wpStill_want rfl (fun K hK => ?_)
        go_simp
        refine hK _ ?_
        clear hK K
        refine wpStill_want rfl (fun K hK => ?_)
        go_simp
        refine hK _ ?_
        clear hK K
        refine wpStill_nil ?_
        refine oneK_want rfl ?_
        go_simp
        go_at_call 82
        refine (l2Cell_any fn kd wt tx _ hsz.2).mono ?_
        rintro e w3 ⟨rfl, hb3d⟩
        have hb3 : Below w2.heap.size w2 w3 := ⟨hb3d.os, hb3d.tape, hb3d.output, hb3d.size, hb3d.block⟩
        have HB3 : Hid (Below W.heap.size W w3) := hbel.trans (hb3.mono hbel.size)
        clear hb3d hb3
        unfold RestK
        simp only [List.drop_succ_cons, List.drop_zero]
        cases hb : cellS kd tx with
        | false =>
          have HF : Hid (docOkB fs key cs = false) := HNO.out (by rw [HDF2.out, hb])
          repeat (go_big_quiet_step (fail))
          refine wpQuiet_nil ?_
          intro _ hw'
          obtain ⟨nq, hw''⟩ := hw'
          subst hw''
          go_wp2
          go_ret
          exact ⟨ret_bool HF.out.symm, below_drewN (below_trans hb0 HB3.out) _⟩
        | true =>
          have HY : Hid (allTo (scelOk fs cs) (k + 1) = true) := HYS.out (by rw [HDF2.out, hb])
          repeat (go_big_quiet_step (fail))
          refine wpQuiet_nil ?_
          intro _ hw'
          obtain ⟨nq, hw''⟩ := hw'
          subst hw''
          go_wp2
          go_roundw
          case rel => exact ⟨k + 1, by omega, by go_num, HY.out, below_drewN HB3.out _⟩
          case measure => simp [intOf]; omega
      · have hj0 : ((-1 : Int) < 0) := by omega
        have HF : Hid (docOkB fs key cs = false) := HNO.out (by rw [HDF.out, hfi]; simp)
        clear HDF hfi hpos
        go_wp2
        go_quiet (fail)
        go_wp2
        go_ret
        exact ⟨ret_bool HF.out.symm, below_drewN hbw _⟩
    · have hkl : k = cs.length := by omega
      subst hkl
      have HDE : Hid (docOkB fs key cs = (fieldsB fs && formB key cs)) := doc_end HA.out
      have HRF1 : Hid (FldRow wr a fs) := HRF.out.below hbel
      have HRC1 : Hid (CelRow wr p cs) := HRC.out.below hbel
      go_wp2_with fail
      refine (HFS.out _ HRF1.out).mono ?_
      rintro e w3 ⟨rfl, hb3⟩
      have B3 := B1.below hb3 B1.lt
      clear k0 k1
      have k0 := B3.cell 0
      have k1 := B3.cell 1
      simp at k0 k1
      cases hf : fieldsB fs with
      | false =>
        rw [hf] at HDE
        go_wp2
        go_ret
        exact ⟨ret_bool HDE.out.symm, below_trans hbw hb3⟩
      | true =>
        rw [hf, Bool.true_and] at HDE
        go_wp2_with fail
        refine (l2Form_any key p capc cs _ hk hzc HSC.out (HRC1.out.below hb3)).mono ?_
        rintro e w4 ⟨rfl, hb4⟩
        generalize formB key cs = b at *
        go_wp2
        go_ret
        exact ⟨ret_bool HDE.out.symm, below_trans (below_trans hbw hb3) hb4⟩
end Go.Proofs.YtbifagdcnpnpjaaGreat

/- l4Doc and l4Made of the model: all words of documents. -/
namespace Go.Proofs.YtbifagdcnpnpjaaGreat
open Go Go.RowKit Go.BigFrame
set_option linter.unusedVariables false

/-- Not more than N of anything; each word stands somewhere. -/
structure EntsN (es : List Ent) (N : Nat) : Prop where
  len : es.length ≤ N
  el : ∀ e ∈ es, e.posts ≠ [] ∧ e.posts.length ≤ N ∧ e.field.size ≤ 1048576 ∧ e.term.size ≤ 1048576 ∧ ∀ p ∈ e.posts, p.ats.length ≤ N
theorem EntsN.mono {es : List Ent} {N M : Nat} (h : EntsN es N) (hm : N ≤ M) : EntsN es M :=
  ⟨Nat.le_trans h.len hm, fun e he => ⟨(h.el e he).1, Nat.le_trans (h.el e he).2.1 hm, (h.el e he).2.2.1, (h.el e he).2.2.2.1, fun p hp => Nat.le_trans ((h.el e he).2.2.2.2 p hp) hm⟩⟩
theorem EntsN.sm {es : List Ent} {N : Nat} (h : EntsN es N) (hN : N ≤ 1048576) : EntsSm es :=
  ⟨Nat.le_trans h.len hN, fun e he => ⟨(h.el e he).2.2.1, (h.el e he).2.2.2.1, Nat.le_trans (h.el e he).2.1 hN, fun p hp => Nat.le_trans ((h.el e he).2.2.2.2 p hp) hN⟩⟩
theorem postAdd_len (ps : List Pst) (doc at' : Int) {N : Nat} (h1 : ps.length ≤ N) (h2 : ∀ p ∈ ps, p.ats.length ≤ N) : (postAdd ps doc at').length ≤ N + 1 ∧ ∀ p ∈ postAdd ps doc at', p.ats.length ≤ N + 1 := by
  unfold postAdd
  split
  · rename_i p hp
    split
    · have hm : p ∈ ps := List.mem_of_getLast? hp
      have hpos : 0 < ps.length := List.length_pos_of_mem hm
      refine ⟨by simp; omega, fun q hq => ?_⟩
      rcases List.mem_append.1 hq with h | h
      · exact Nat.le_succ_of_le (h2 q ((List.dropLast_sublist ps).subset h))
      · simp at h
        subst h
        have := h2 p hm
        simp
        omega
    · refine ⟨by simp; omega, fun q hq => ?_⟩
      rcases List.mem_append.1 hq with h | h
      · exact Nat.le_succ_of_le (h2 q h)
      · simp at h
        subst h
        simp
  · refine ⟨by simp; omega, fun q hq => ?_⟩
    rcases List.mem_append.1 hq with h | h
    · exact Nat.le_succ_of_le (h2 q h)
    · simp at h
      subst h
      simp
theorem EntsN.add {es : List Ent} {N : Nat} (h : EntsN es N) (f t : ByteArray) (doc at' : Int) (hf : f.size ≤ 1048576) (ht : t.size ≤ 1048576) : EntsN (wordAdd es f t doc at') (N + 1) := by
  have hnew : ∀ e : Ent, e = ⟨f, t, [⟨doc, [at']⟩]⟩ → e.posts ≠ [] ∧ e.posts.length ≤ N + 1 ∧ e.field.size ≤ 1048576 ∧ e.term.size ≤ 1048576 ∧ ∀ p ∈ e.posts, p.ats.length ≤ N + 1 := fun e he => by
    subst he
    exact ⟨by simp, by simp, hf, ht, fun p hp => by simp at hp; subst hp; simp⟩
  have hold : ∀ e ∈ es, e.posts ≠ [] ∧ e.posts.length ≤ N + 1 ∧ e.field.size ≤ 1048576 ∧ e.term.size ≤ 1048576 ∧ ∀ p ∈ e.posts, p.ats.length ≤ N + 1 := (h.mono (Nat.le_succ N)).el
  have hins : EntsN (es.take (placeE es f t) ++ ⟨f, t, [⟨doc, [at']⟩]⟩ :: es.drop (placeE es f t)) (N + 1) := by
    have hk := placeE_le es f t
    refine ⟨by have := h.len; simp; omega, fun e he => ?_⟩
    rcases List.mem_append.1 he with h1 | h1
    · exact hold e (List.mem_of_mem_take h1)
    · rcases List.mem_cons.1 h1 with h1 | h1
      · exact hnew e h1
      · exact hold e (List.mem_of_mem_drop h1)
  unfold wordAdd
  split
  · rename_i x hx
    split
    · have hm := List.mem_of_getElem? hx
      obtain ⟨h1, h2, h3, h4, h5⟩ := h.el x hm
      obtain ⟨p1, p2⟩ := postAdd_len x.posts doc at' h2 h5
      refine ⟨by rw [List.length_set]; exact Nat.le_succ_of_le h.len, fun e he => ?_⟩
      rcases List.mem_or_eq_of_mem_set he with h6 | h6
      · exact hold e h6
      · subst h6
        exact ⟨postAdd_ne _ _ _, p1, h3, h4, p2⟩
    · exact hins
  · exact hins
/-- All words of a cell, of a document as far as its k-th cell, of documents as far as the k-th. -/
def cellE (fs : List Fld) (es : List Ent) (id : Int) (c : Cel) : List Ent := if kindB fs c.name 1 = true then termsE es c.name id (termsL c.text) (termsL c.text).length else es
def cellsE (fs : List Fld) (es : List Ent) (id : Int) (cs : List Cel) : Nat → List Ent
  | 0 => es
  | k + 1 => cellE fs (cellsE fs es id cs k) id (cat cs k)
def rat (rs : List Rw) (k : Nat) : Rw := rs.getD k ⟨0, ⟨#[]⟩, []⟩
theorem rat_get (rs : List Rw) (k : Nat) (h : k < rs.length) : rat rs k = rs[k] := by unfold rat; rw [List.getD_eq_getElem?_getD, List.getElem?_eq_getElem h]; rfl
def rowsE (fs : List Fld) (rs : List Rw) : Nat → List Ent
  | 0 => []
  | k + 1 => cellsE fs (rowsE fs rs k) (rat rs k).id (rat rs k).cells (rat rs k).cells.length
def madeE (fs : List Fld) (rs : List Rw) : List Ent := rowsE fs rs rs.length
/-- Few enough, and not too long. -/
def CelsL (cs : List Cel) : Prop := cs.length ≤ 10 ∧ ∀ i, i < cs.length → (cat cs i).name.size ≤ 1000 ∧ (cat cs i).text.size ≤ 1000
def RwsL (rs : List Rw) : Prop := rs.length ≤ 100 ∧ ∀ r ∈ rs, CelsL r.cells
theorem termsL_few (s : ByteArray) : (termsL s).length ≤ s.size := by
  rw [termsL_len]
  exact wordsOn_len s s.size 0 (by omega)
theorem stemA_le (s : ByteArray) : (stemA s).size ≤ 12 := by
  have h1 : (cut12 (foldA s)).size ≤ 12 := by
    unfold cut12
    split
    · simp; omega
    · omega
  have h2 : (withoutA (cut12 (foldA s))).size ≤ 12 := by
    unfold withoutA
    split
    · simp; omega
    · exact h1
  unfold stemA
  split
  · exact Nat.zero_le _
  · exact h2
theorem tat_le (s : ByteArray) (k : Nat) : (tat (termsL s) k).size ≤ 12 := by
  unfold tat
  rw [List.getD_eq_getElem?_getD]
  cases h : (termsL s)[k]? with
  | none => exact Nat.zero_le _
  | some t =>
    have hm := List.mem_of_getElem? h
    unfold termsL at hm
    obtain ⟨x, _, rfl⟩ := List.mem_map.1 hm
    exact stemA_le _
theorem EntsN.addIf {es : List Ent} {N : Nat} (h : EntsN es N) (f t : ByteArray) (doc at' : Int) (hf : f.size ≤ 1048576) (ht : t.size ≤ 1048576) : EntsN (wordAddIf es f t doc at') (N + 1) := by
  unfold wordAddIf
  split
  · exact h.mono (Nat.le_succ _)
  · exact h.add f t doc at' hf ht
/-- A list of entries in the making: where its blocks are, and what has changed since w0. -/
structure LSt (w0 : World) (B : Nat) (FP : List Nat) (wr : World) (G CC : Nat) (xs : List Value) (es : List Ent) (fps : Nat → List Nat) : Prop where
  g : GRow entEl wr B (.slice (some ⟨G, 0, none⟩) es.length CC) xs es fps
  sub : ∀ b ∈ footOf (.slice (some ⟨G, 0, none⟩) es.length CC) fps es.length, b ∈ FP ∨ w0.heap.size ≤ b
  tch : Tch FP w0 wr
theorem LSt.below {w0 wr w' : World} {B : Nat} {FP : List Nat} {G CC : Nat} {xs : List Value} {es : List Ent} {fps : Nat → List Nat} (h : LSt w0 B FP wr G CC xs es fps) (hb : Below wr.heap.size wr w') : LSt w0 B FP w' G CC xs es fps :=
  ⟨h.g.below hb, h.sub, h.tch.trans (Tch.of_below hb)⟩
theorem LSt.word {w0 wr w' : World} {B : Nat} {FP : List Nat} {G CC : Nat} {xs : List Value} {es es' : List Ent} {fps : Nat → List Nat} {e : Ending} (h : LSt w0 B FP wr G CC xs es fps) (hw : WordA es' B (.slice (some ⟨G, 0, none⟩) es.length CC) fps es.length wr w' e) :
    ∃ G' C' xs' fps', e = .returned (.slice (some ⟨G', 0, none⟩) es'.length C') ∧ LSt w0 B FP w' G' C' xs' es' fps' := by
  obtain ⟨G', C', xs', fps', he, hg, hs, ht⟩ := hw
  refine ⟨G', C', xs', fps', he, hg, fun b hb => ?_, h.tch.then ht h.sub⟩
  rcases hs b hb with h1 | h1
  · exact h.sub b h1
  · exact .inr (Nat.le_trans h.tch.size h1)
theorem LSt.start {w : World} {B G CC : Nat} {xs : List Value} {es : List Ent} {fps : Nat → List Nat} (h : GRow entEl w B (.slice (some ⟨G, 0, none⟩) es.length CC) xs es fps) : LSt w B (footOf (.slice (some ⟨G, 0, none⟩) es.length CC) fps es.length) w G CC xs es fps :=
  ⟨h, fun b hb => .inl hb, Tch.refl _ _⟩
end Go.Proofs.YtbifagdcnpnpjaaGreat

/- The empty text. -/
namespace Go.Proofs.YtbifagdcnpnpjaaGreat
open Go.RowKit
set_option linter.unusedVariables false

theorem size_nil {t : ByteArray} (h : t.size = 0) : t = ⟨#[]⟩ := by
  cases t with
  | mk d => cases d with
    | mk l => cases l with
      | nil => rfl
      | cons a b => simp [ByteArray.size] at h
theorem nil_empty (t : ByteArray) (h : t.size ≠ 0) : t.toList.isEmpty = false := by
  rw [ByteArray.toList_eq]
  cases t with
  | mk d => cases d with
    | mk l => cases l with
      | nil => exact absurd rfl h
      | cons a b => rfl
end Go.Proofs.YtbifagdcnpnpjaaGreat
