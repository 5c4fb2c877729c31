/- What HintFind answers: those that begin so, by weight, the greatest first; as heavy ones in their order. -/
import Derived.Test.YtgmfaganaeibkaaDoorHintAddS
namespace Go.Proofs.YtgmfaganaeibkaaDoor
open Go.RowKit
set_option linter.unusedVariables false

def preB (b t : ByteArray) : Bool := decide (b.size ≤ t.size) && ((t.extract 0 b.size).toList == b.toList)
/-- How far from the left a hint of weight x comes into a row that is by weight, the k first looked at. -/
def posW (out : List Hn) (x : Int) : Nat → Nat
  | 0 => 0
  | k + 1 => if (hnat out k).weight < x then posW out x k else k + 1
theorem posW_le (out : List Hn) (x : Int) : ∀ k, posW out x k ≤ k
  | 0 => Nat.le_refl _
  | k + 1 => by
    unfold posW
    split
    · exact Nat.le_succ_of_le (posW_le out x k)
    · exact Nat.le_refl _
def insW (out : List Hn) (h : Hn) : List Hn := out.take (posW out h.weight out.length) ++ [h] ++ out.drop (posW out h.weight out.length)
theorem insW_len (out : List Hn) (h : Hn) : (insW out h).length = out.length + 1 := by
  unfold insW
  have := posW_le out h.weight out.length
  simp
  omega
def sortW (l : List Hn) : List Hn := l.foldl insW []
theorem sortW_snoc (l : List Hn) (h : Hn) : sortW (l ++ [h]) = insW (sortW l) h := by simp [sortW, List.foldl_append]
theorem sortW_len : ∀ l : List Hn, (sortW l).length = l.length := fun l => by
  have key : ∀ (l acc : List Hn), (l.foldl insW acc).length = acc.length + l.length := fun l => by
    induction l with
    | nil => intro acc; simp
    | cons a l ih => intro acc; rw [List.foldl_cons, ih, insW_len, List.length_cons]; omega
  have := key l []
  simpa [sortW] using this
def findH (hs : List Hn) (b : ByteArray) : List Hn := hs.filter fun h => preB b h.text
/-- What HintFind answers. -/
def FindR (hs : List Hn) (b : ByteArray) (m : Int) : List Hn := if hintsB hs = true ∧ 0 ≤ m then (sortW (findH hs b)).take m.toNat else []
theorem findH_len (hs : List Hn) (b : ByteArray) : (findH hs b).length ≤ hs.length := List.length_filter_le _ _
theorem findR_len (hs : List Hn) (b : ByteArray) (m : Int) : (FindR hs b m).length ≤ hs.length := by
  unfold FindR
  split
  · rw [List.length_take, sortW_len]
    have := findH_len hs b
    omega
  · exact Nat.zero_le _
theorem findH_snoc (l : List Hn) (h : Hn) (b : ByteArray) : findH (l ++ [h]) b = findH l b ++ (if preB b h.text = true then [h] else []) := by
  unfold findH
  rw [List.filter_append, List.filter_cons]
  rfl
theorem findH_take (hs : List Hn) (b : ByteArray) (k : Nat) (h : k < hs.length) : findH (hs.take (k + 1)) b = findH (hs.take k) b ++ (if preB b (hnat hs k).text = true then [hnat hs k] else []) := by
  rw [take_snoc _ _ h, findH_snoc]

set_option maxHeartbeats 400000 in
theorem hasPre_lite (s b : ByteArray) (w : World) : Calls Tryd.prog 60 #[.string s, .string b] w fun e w' => e = .returned (.bool (preB b s)) ∧ w' = w := by
  by_cases h : b.size ≤ s.size
  · have hi : (b.size : Int) ≤ (s.size : Int) := by omega
    have HP : Hid (preB b s = ((s.extract 0 b.size).toList == b.toList)) := by unfold Hid preB; rw [decide_eq_true h, Bool.true_and]
    go_enter Tryd.func60, Tryd.ntmps60
    go_wp2
    go_ret
    exact ⟨by rw [HP.out]; rfl, rfl⟩
  · have hi : decide ((b.size : Int) ≤ (s.size : Int)) = false := decide_eq_false (by omega)
    have HP : Hid (preB b s = false) := by unfold Hid preB; rw [decide_eq_false h, Bool.false_and]
    go_enter Tryd.func60, Tryd.ntmps60
    go_wp2
    go_ret
    exact ⟨by rw [HP.out]; rfl, rfl⟩
theorem hasPre_any (s b : ByteArray) (w : World) : Calls Tryd.prog 41 #[.string s, .string b] w fun e w' => e = .returned (.bool (preB b s)) ∧ w' = w := by
  go_enter Tryd.func41, Tryd.ntmps41
  go_wp2_with fail
  refine (hasPre_lite s b _).mono ?_
  rintro e w1 ⟨rfl, rfl⟩
  go_wp2
  go_ret
  exact ⟨rfl, rfl⟩
set_option maxHeartbeats 400000 in
theorem l4Begins_any (s b : ByteArray) (w : World) : Calls Tryd.prog 45 #[.string s, .string b] w fun e w' => e = .returned (.bool (preB b s)) ∧ w' = w := by
  by_cases h : b.size ≤ s.size
  · have hi : (b.size : Int) ≤ (s.size : Int) := by omega
    have HP : Hid (preB b s = ((s.extract 0 b.size).toList == b.toList)) := by unfold Hid preB; rw [decide_eq_true h, Bool.true_and]
    go_enter Tryd.func45, Tryd.ntmps45
    go_wp2
    go_ret
    exact ⟨by rw [HP.out]; rfl, rfl⟩
  · have hi : decide ((b.size : Int) ≤ (s.size : Int)) = false := decide_eq_false (by omega)
    have HP : Hid (preB b s = false) := by unfold Hid preB; rw [decide_eq_false h, Bool.false_and]
    go_enter Tryd.func45, Tryd.ntmps45
    go_wp2
    go_ret
    exact ⟨by rw [HP.out]; rfl, rfl⟩
theorem isNaNi_any (x : Int) (w : World) : Calls Tryd.prog 62 #[.int .i64 x] w fun e w' => e = .returned (.bool false) ∧ w' = w := by
  go_enter Tryd.func62, Tryd.ntmps62
  go_wp2
  go_ret
  exact ⟨rfl, rfl⟩
def cmpI (x y : Int) : Int := if x < y then -1 else if y < x then 1 else 0
theorem compareI_any (x y : Int) (w : World) : Calls Tryd.prog 44 #[.int .i64 x, .int .i64 y] w fun e w' => e = .returned (.int .i64 (cmpI x y)) ∧ w' = w := by
  by_cases h1 : x < y
  · have HC : Hid (cmpI x y = -1) := if_pos h1
    go_enter Tryd.func44, Tryd.ntmps44
    go_wp2_with fail
    refine (isNaNi_any x _).mono ?_
    rintro e w1 ⟨rfl, rfl⟩
    go_wp2_with fail
    refine (isNaNi_any y _).mono ?_
    rintro e w1 ⟨rfl, rfl⟩
    go_wp2
    go_ret
    exact ⟨by rw [HC.out]; rfl, rfl⟩
  · have h1d : decide (x < y) = false := decide_eq_false h1
    by_cases h2 : y < x
    · have HC : Hid (cmpI x y = 1) := (if_neg h1).trans (if_pos h2)
      go_enter Tryd.func44, Tryd.ntmps44
      go_wp2_with fail
      refine (isNaNi_any x _).mono ?_
      rintro e w1 ⟨rfl, rfl⟩
      go_wp2_with fail
      refine (isNaNi_any y _).mono ?_
      rintro e w1 ⟨rfl, rfl⟩
      go_wp2
      go_ret
      exact ⟨by rw [HC.out]; rfl, rfl⟩
    · have h2d : decide (y < x) = false := decide_eq_false h2
      have HC : Hid (cmpI x y = 0) := (if_neg h1).trans (if_neg h2)
      go_enter Tryd.func44, Tryd.ntmps44
      go_wp2_with fail
      refine (isNaNi_any x _).mono ?_
      rintro e w1 ⟨rfl, rfl⟩
      go_wp2_with fail
      refine (isNaNi_any y _).mono ?_
      rintro e w1 ⟨rfl, rfl⟩
      go_wp2
      go_ret
      exact ⟨by rw [HC.out]; rfl, rfl⟩
/-- The order by weight. -/
theorem byWeight_any (s t : ByteArray) (x y : Int) (w : World) : Calls Tryd.prog 43 #[.agg #[.string s, .int .i64 x], .agg #[.string t, .int .i64 y]] w fun e w' => e = .returned (.int .i64 (cmpI y x)) ∧ Below w.heap.size w w' := by
  go_enter Tryd.func43, Tryd.ntmps43
  go_wp2_with fail
  refine (compareI_any y x _).mono ?_
  rintro e w1 ⟨rfl, rfl⟩
  go_wp2
  go_ret
  exact ⟨rfl, ((Below.refl _ w).alloc (Nat.le_refl _) _).alloc (by simp) _⟩
/-- What is struck: what does not begin so. -/
theorem struck_any (s b : ByteArray) (x : Int) (B : Nat) (w : World) (hB : Blk w B #[.string b] 9) : Calls Tryd.prog 40 #[.agg #[.string s, .int .i64 x], .pointer (some ⟨B, 0, none⟩)] w fun e w' => e = .returned (.bool (!preB b s)) ∧ Below w.heap.size w w' := by
  have hlt := hB.lt
  have hb1 : Below w.heap.size w (w.alloc (.cells #[.string s, .int .i64 x] 31)) := (Below.refl _ w).alloc (Nat.le_refl _) _
  have b0 := (hB.below hb1 hlt).cell 0
  simp at b0
  go_enter Tryd.func40, Tryd.ntmps40
  go_wp2_with fail
  refine (hasPre_any s b _).mono ?_
  rintro e w1 ⟨rfl, rfl⟩
  go_wp2
  go_ret
  exact ⟨rfl, hb1⟩
end Go.Proofs.YtgmfaganaeibkaaDoor
