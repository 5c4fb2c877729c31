/- Rows whose elements own blocks of their own. -/
import Derived.Test.YtbifagdcnpnpjaaGreatCommon
import Derived.Test.YtbifagdcnpnpjaaGreatBlk
import Derived.Maps.AppendAt
namespace Go.Proofs.YtbifagdcnpnpjaaGreat
open Go.RowKit
set_option linter.unusedVariables false

def feet (fps : Nat → List Nat) (n : Nat) : List Nat := (List.range n).flatMap fps
theorem feet_succ (fps : Nat → List Nat) (n : Nat) : feet fps (n + 1) = feet fps n ++ fps n := by
  unfold feet
  rw [List.range_succ, List.flatMap_append]
  simp
theorem mem_feet {fps : Nat → List Nat} {n b : Nat} : b ∈ feet fps n ↔ ∃ i, i < n ∧ b ∈ fps i := by
  unfold feet
  simp [List.mem_flatMap]
theorem feet_congr {fps fqs : Nat → List Nat} {n : Nat} (h : ∀ i, i < n → fps i = fqs i) : feet fps n = feet fqs n := by
  induction n with
  | zero => rfl
  | succ n ih => rw [feet_succ, feet_succ, ih (fun i hi => h i (by omega)), h n (by omega)]
theorem feet_nil {fps : Nat → List Nat} {n : Nat} (h : ∀ i, i < n → fps i = []) : feet fps n = [] := by
  induction n with
  | zero => rfl
  | succ n ih => rw [feet_succ, ih (fun i hi => h i (by omega)), h n (by omega)]; rfl
/-- Each of its own, and no two share one. -/
theorem feet_nodup {fps : Nat → List Nat} : ∀ {n : Nat}, (feet fps n).Nodup ↔ (∀ i, i < n → (fps i).Nodup) ∧ ∀ i j, i < n → j < n → i ≠ j → ∀ b, b ∈ fps i → b ∉ fps j
  | 0 => ⟨fun _ => ⟨fun _ h => by omega, fun _ _ h => by omega⟩, fun _ => List.nodup_nil⟩
  | n + 1 => by
    rw [feet_succ, List.nodup_append, feet_nodup]
    constructor
    · rintro ⟨⟨h1, h2⟩, h3, h4⟩
      refine ⟨fun i hi => ?_, fun i j hi hj hne b hb hb2 => ?_⟩
      · by_cases e : i = n
        · subst e; exact h3
        · exact h1 i (by omega)
      · by_cases e : i = n
        · subst e
          exact h4 b (mem_feet.2 ⟨j, by omega, hb2⟩) b hb rfl
        · by_cases e2 : j = n
          · subst e2
            exact h4 b (mem_feet.2 ⟨i, by omega, hb⟩) b hb2 rfl
          · exact h2 i j (by omega) (by omega) hne b hb hb2
    · rintro ⟨h1, h2⟩
      refine ⟨⟨fun i hi => h1 i (by omega), fun i j hi hj hne => h2 i j (by omega) (by omega) hne⟩, h1 n (by omega), fun a ha b hb e => ?_⟩
      subst e
      obtain ⟨i, hi, ha⟩ := mem_feet.1 ha
      exact h2 i n (by omega) (by omega) (by omega) a ha hb
theorem feet_apart {fps : Nat → List Nat} {n : Nat} (h : (feet fps n).Nodup) {i j : Nat} (hi : i < n) (hj : j < n) (hne : i ≠ j) {b : Nat} (hb : b ∈ fps i) : b ∉ fps j := (feet_nodup.1 h).2 i j hi hj hne b hb

theorem row_same {w w' : World} {B n size : Nat} {v : Value} {e : TypeId} {xs : List Value} (h : w.ownsRow B e size v n xs) (hb : ∀ g, v.ownBlock = some g → w'.heap[g]? = w.heap[g]?) : w'.ownsRow B e size v n xs := by
  refine ⟨h.1, ?_⟩
  rcases h.2 with h | ⟨g, c', cur, e, h3, h4, h5⟩
  · exact .inl h
  · exact .inr ⟨g, c', cur, e, h3, (hb g (by rw [e]; rfl)).trans h4, h5⟩
theorem row_base {w : World} {b B n size : Nat} {v : Value} {e : TypeId} {xs : List Value} (h : w.ownsRow b e size v n xs) (hb : ∀ g, v.ownBlock = some g → B ≤ g) : w.ownsRow B e size v n xs := by
  refine ⟨h.1, ?_⟩
  rcases h.2 with h | ⟨g, c', cur, e, h3, h4⟩
  · exact .inl h
  · exact .inr ⟨g, c', cur, e, hb g (by rw [e]; rfl), h4⟩
theorem row_val {w : World} {b n size : Nat} {v : Value} {e : TypeId} {xs : List Value} (h : w.ownsRow b e size v n xs) : ∃ p c, v = .slice p n c ∧ n ≤ c ∧ c ≤ maxLen ∧ (p = none → c = 0) ∧ (∀ x, p = some x → ∃ g, x = ⟨g, 0, none⟩ ∧ b ≤ g ∧ g < w.heap.size ∧ v.ownBlock = some g) := by
  rcases h.2 with ⟨rfl, h0⟩ | ⟨g, cap, cur, rfl, hb, hg, hc, hm, _⟩
  · exact ⟨none, 0, by rw [h0], by omega, Nat.zero_le _, fun _ => rfl, fun x e => by cases e⟩
  · exact ⟨_, cap, rfl, hc, hm, (fun e => by cases e), (fun x e => by cases e; exact ⟨g, rfl, hb, lt_of_block hg, rfl⟩)⟩

/-- What an element is: its cells, and the blocks that they own. -/
structure El (α : Type) where
  size : Nat
  ty : TypeId
  own : World → List Value → α → List Nat → Prop
  kept : ∀ {w w' : World} {c : List Value} {a : α} {fp : List Nat}, own w c a fp → (∀ b ∈ fp, w'.heap[b]? = w.heap[b]?) → own w' c a fp
  lt : ∀ {w : World} {c : List Value} {a : α} {fp : List Nat}, own w c a fp → ∀ b ∈ fp, b < w.heap.size
  nodup : ∀ {w : World} {c : List Value} {a : α} {fp : List Nat}, own w c a fp → fp.Nodup
  len : ∀ {w : World} {c : List Value} {a : α} {fp : List Nat}, own w c a fp → c.length = size

def grp (xs : List Value) (s i : Nat) : List Value := (xs.drop (i * s)).take s
theorem grp_get {xs : List Value} {s i j : Nat} (h : j < s) : (grp xs s i)[j]? = xs[i * s + j]? := by
  unfold grp
  rw [List.getElem?_take, if_pos h, List.getElem?_drop]
theorem grp_left {xs ys : List Value} {s i n : Nat} (hl : xs.length = n * s) (hi : i < n) : grp (xs ++ ys) s i = grp xs s i := by
  have : (i + 1) * s ≤ n * s := Nat.mul_le_mul_right _ hi
  rw [Nat.add_mul, Nat.one_mul] at this
  unfold grp
  rw [List.drop_append_of_le_length (by omega), List.take_append_of_le_length (by simp; omega)]
theorem grp_last {xs c : List Value} {s n : Nat} (hl : xs.length = n * s) (hc : c.length = s) : grp (xs ++ c) s n = c := by
  unfold grp
  rw [← hl, List.drop_left, ← hc, List.take_length]
theorem grp_skip {ys xs : List Value} {s n i : Nat} (hl : ys.length = n * s) : grp (ys ++ xs) s (n + i) = grp xs s i := by
  unfold grp
  rw [Nat.add_mul, ← hl, List.drop_append, List.drop_eq_nil_of_le (by omega), List.nil_append, Nat.add_sub_cancel_left]
theorem grp_take {xs : List Value} {s i k : Nat} (hi : i < k) : grp (xs.take (k * s)) s i = grp xs s i := by
  have : (i + 1) * s ≤ k * s := Nat.mul_le_mul_right _ hi
  rw [Nat.add_mul, Nat.one_mul] at this
  unfold grp
  rw [List.drop_take, List.take_take, Nat.min_eq_left (by omega)]
theorem grp_drop {xs : List Value} {s i k : Nat} : grp (xs.drop (k * s)) s i = grp xs s (k + i) := by
  unfold grp
  rw [List.drop_drop, Nat.add_mul]
theorem grp_set_other {xs : List Value} {s i j : Nat} {v : Value} (h : j < i * s ∨ (i + 1) * s ≤ j) : grp (xs.set j v) s i = grp xs s i := by
  rw [Nat.add_mul, Nat.one_mul] at h
  apply List.ext_getElem?
  intro k
  unfold grp
  by_cases hk : k < s
  · rw [List.getElem?_take, if_pos hk, List.getElem?_take, if_pos hk, List.getElem?_drop, List.getElem?_drop, List.getElem?_set_ne (by omega)]
  · rw [List.getElem?_take, if_neg hk, List.getElem?_take, if_neg hk]
theorem grp_set_same {xs : List Value} {s i j : Nat} {v : Value} (h : j < s) : grp (xs.set (i * s + j) v) s i = (grp xs s i).set j v := by
  apply List.ext_getElem?
  intro k
  unfold grp
  rw [List.getElem?_set]
  by_cases hk : k < s
  · rw [List.getElem?_take, if_pos hk, List.getElem?_drop, List.getElem?_set]
    by_cases e : j = k
    · subst e
      simp only [if_true, List.length_take, List.length_drop]
      by_cases e2 : i * s + j < xs.length
      · rw [if_pos e2, if_pos (by omega)]
      · rw [if_neg e2, if_neg (by omega)]
    · rw [if_neg (by omega), if_neg e, List.getElem?_take, if_pos hk, List.getElem?_drop]
  · rw [List.getElem?_take, if_neg hk, if_neg (by omega), List.getElem?_take, if_neg hk]

variable {α : Type}
structure GRow (E : El α) (w : World) (B : Nat) (v : Value) (xs : List Value) (ls : List α) (fps : Nat → List Nat) : Prop where
  row : w.ownsRow B E.ty E.size v ls.length xs
  el : ∀ i a, ls[i]? = some a → E.own w (grp xs E.size i) a (fps i) ∧ ∀ b ∈ fps i, B ≤ b
  nd : (feet fps ls.length).Nodup
  apart : ∀ g, v.ownBlock = some g → g ∉ feet fps ls.length
/-- All blocks of a row. -/
def footOf (v : Value) (fps : Nat → List Nat) (n : Nat) : List Nat := v.ownBlock.toList ++ feet fps n
theorem mem_footOf {v : Value} {fps : Nat → List Nat} {n b : Nat} : b ∈ footOf v fps n ↔ v.ownBlock = some b ∨ b ∈ feet fps n := by
  unfold footOf
  rw [List.mem_append, Option.mem_toList]
theorem GRow.nil (E : El α) (w : World) (B : Nat) : GRow E w B (.slice none 0 0) [] [] (fun _ => []) := ⟨World.ownsRow_nil _ _ _ _, fun i a h => by simp at h, by simp [feet], fun g h => by cases h⟩
theorem GRow.lt {E : El α} {w : World} {B : Nat} {v : Value} {xs : List Value} {ls : List α} {fps : Nat → List Nat} (h : GRow E w B v xs ls fps) : ∀ b ∈ footOf v fps ls.length, B ≤ b ∧ b < w.heap.size := fun b hb => by
  rcases mem_footOf.1 hb with hb | hb
  · exact h.row.lt b hb
  · obtain ⟨i, hi, hb⟩ := mem_feet.1 hb
    obtain ⟨h1, h2⟩ := h.el i ls[i] (List.getElem?_eq_getElem hi)
    exact ⟨h2 b hb, E.lt h1 b hb⟩
theorem GRow.nodup {E : El α} {w : World} {B : Nat} {v : Value} {xs : List Value} {ls : List α} {fps : Nat → List Nat} (h : GRow E w B v xs ls fps) : (footOf v fps ls.length).Nodup := by
  unfold footOf
  rw [List.nodup_append]
  refine ⟨?_, h.nd, fun a ha b hb e => ?_⟩
  · cases v.ownBlock <;> simp
  · subst e
    rw [Option.mem_toList] at ha
    exact h.apart a ha hb
theorem GRow.kept {E : El α} {w w' : World} {B : Nat} {v : Value} {xs : List Value} {ls : List α} {fps : Nat → List Nat} (h : GRow E w B v xs ls fps) (hb : ∀ b ∈ footOf v fps ls.length, w'.heap[b]? = w.heap[b]?) : GRow E w' B v xs ls fps :=
  ⟨row_same h.row fun g hg => hb g (mem_footOf.2 (.inl hg)), fun i a hi => ⟨E.kept (h.el i a hi).1 fun b hb' => hb b (mem_footOf.2 (.inr (mem_feet.2 ⟨i, (List.getElem?_eq_some_iff.1 hi).1, hb'⟩))), (h.el i a hi).2⟩, h.nd, h.apart⟩
theorem GRow.below {E : El α} {w w' : World} {B : Nat} {v : Value} {xs : List Value} {ls : List α} {fps : Nat → List Nat} (h : GRow E w B v xs ls fps) (hb : Below w.heap.size w w') : GRow E w' B v xs ls fps :=
  h.kept fun b hb' => hb.block b (h.lt b hb').2
theorem GRow.rebase {E : El α} {w : World} {B B' : Nat} {v : Value} {xs : List Value} {ls : List α} {fps : Nat → List Nat} (h : GRow E w B v xs ls fps) (hb : ∀ b ∈ footOf v fps ls.length, B' ≤ b) : GRow E w B' v xs ls fps :=
  ⟨row_base h.row fun g hg => hb g (mem_footOf.2 (.inl hg)), fun i a hi => ⟨(h.el i a hi).1, fun b hb' => hb b (mem_footOf.2 (.inr (mem_feet.2 ⟨i, (List.getElem?_eq_some_iff.1 hi).1, hb'⟩)))⟩, h.nd, h.apart⟩
/-- Elements in the order of another list: what is asked to make a row of them. -/
theorem GRow.make {E : El α} {w : World} {B : Nat} {v : Value} {xs : List Value} {ls : List α} {fps : Nat → List Nat} (row : w.ownsRow B E.ty E.size v ls.length xs)
    (el : ∀ i a, ls[i]? = some a → E.own w (grp xs E.size i) a (fps i) ∧ ∀ b ∈ fps i, B ≤ b) (nd : ∀ i j, i < ls.length → j < ls.length → i ≠ j → ∀ b, b ∈ fps i → b ∉ fps j)
    (apart : ∀ g, v.ownBlock = some g → ∀ i, i < ls.length → g ∉ fps i) : GRow E w B v xs ls fps :=
  ⟨row, el, feet_nodup.2 ⟨fun i hi => E.nodup (el i ls[i] (List.getElem?_eq_getElem hi)).1, nd⟩, fun g hg hm => by obtain ⟨i, hi, hm⟩ := mem_feet.1 hm; exact apart g hg i hi hm⟩
/-- One more at the end, of blocks that are new. -/
theorem GRow.snoc {E : El α} {w w3 w4 : World} {B : Nat} {v v' : Value} {xs c : List Value} {ls : List α} {fps : Nat → List Nat} {a : α} {fp : List Nat} (h : GRow E w B v xs ls fps) (hB : B ≤ w.heap.size) (hb3 : Below w.heap.size w w3)
    (hq : E.own w3 c a fp) (hf : ∀ b ∈ fp, w.heap.size ≤ b) (ho : w4.ownsRow B E.ty E.size v' (ls.length + 1) (xs ++ c)) (hg : w3.grownBy w4 v.ownBlock) (hat : v'.ownBlock = v.ownBlock ∨ v'.ownBlock = some w3.heap.size) :
    GRow E w4 B v' (xs ++ c) (ls ++ [a]) (fun i => if i = ls.length then fp else fps i) := by
  have hxl := h.row.1
  have hvlt : ∀ g, v.ownBlock = some g → g < w.heap.size := fun g e => (h.row.lt g e).2
  have hfo : ∀ i, i < ls.length → ∀ b ∈ fps i, b < w.heap.size := fun i hi b hb => (h.lt b (mem_footOf.2 (.inr (mem_feet.2 ⟨i, hi, hb⟩)))).2
  refine .make (by simpa using ho) (fun i a' hi => ?_) (fun i j hi hj hne b hb hb2 => ?_) (fun g hg' i hi hm => ?_)
  · by_cases e : i = ls.length
    · subst e
      rw [List.getElem?_append_right (Nat.le_refl _), Nat.sub_self] at hi
      cases hi
      simp only [if_pos]
      rw [grp_last hxl (E.len hq)]
      exact ⟨E.kept hq fun b hb => hg.block b (E.lt hq b hb) (fun e => by have := hvlt b e.symm; have := hf b hb; omega), fun b hb => Nat.le_trans hB (hf b hb)⟩
    · have hil : i < ls.length := by have := (List.getElem?_eq_some_iff.1 hi).1; simp at this; omega
      rw [List.getElem?_append_left hil] at hi
      simp only [if_neg e]
      rw [grp_left hxl hil]
      obtain ⟨h1, h2⟩ := h.el i a' hi
      refine ⟨E.kept h1 fun b hb => ?_, h2⟩
      have hbl := hfo i hil b hb
      rw [hg.block b (Nat.lt_of_lt_of_le hbl hb3.size) (fun e => h.apart b e.symm (mem_feet.2 ⟨i, hil, hb⟩)), hb3.block b hbl]
  · simp only [List.length_append, List.length_singleton] at hi hj
    by_cases e : i = ls.length
    · rw [if_pos e] at hb
      rw [if_neg (by omega)] at hb2
      have := hf b hb
      have := hfo j (by omega) b hb2
      omega
    · rw [if_neg e] at hb
      by_cases e2 : j = ls.length
      · rw [if_pos e2] at hb2
        have := hf b hb2
        have := hfo i (by omega) b hb
        omega
      · rw [if_neg e2] at hb2
        exact feet_apart h.nd (by omega) (by omega) hne hb hb2
  · simp only [List.length_append, List.length_singleton] at hi
    by_cases e : i = ls.length
    · rw [if_pos e] at hm
      rcases hat with e2 | e2
      · rw [e2] at hg'; have := hvlt g hg'; have := hf g hm; omega
      · rw [e2] at hg'; cases hg'; have := E.lt hq _ hm; omega
    · rw [if_neg e] at hm
      rcases hat with e2 | e2
      · rw [e2] at hg'; exact h.apart g hg' (mem_feet.2 ⟨i, by omega, hm⟩)
      · rw [e2] at hg'; cases hg'; have := hfo i (by omega) _ hm; have := hb3.size; omega
/-- One is turned into another, in place: its blocks are its old ones and new ones; the row lies where it lay. -/
theorem GRow.turn {E : El α} {w w' : World} {B : Nat} {v : Value} {xs c : List Value} {ls : List α} {fps : Nat → List Nat} {a : α} {fp : List Nat} {k : Nat} (h : GRow E w B v xs ls fps) (hB : B ≤ w.heap.size) (hk : k < ls.length)
    (hq : E.own w' c a fp) (hf : ∀ b ∈ fp, b ∈ fps k ∨ w.heap.size ≤ b) {xs' : List Value} (ho : w'.ownsRow B E.ty E.size v ls.length xs') (hx : grp xs' E.size k = c) (hx2 : ∀ i, i < ls.length → i ≠ k → grp xs' E.size i = grp xs E.size i)
    (hb : ∀ b, b < w.heap.size → v.ownBlock ≠ some b → b ∉ fps k → w'.heap[b]? = w.heap[b]?) :
    GRow E w' B v xs' (ls.set k a) (fun i => if i = k then fp else fps i) := by
  have hvlt : ∀ g, v.ownBlock = some g → g < w.heap.size := fun g e => (h.row.lt g e).2
  have hfo : ∀ i, i < ls.length → ∀ b ∈ fps i, b < w.heap.size := fun i hi b hb => (h.lt b (mem_footOf.2 (.inr (mem_feet.2 ⟨i, hi, hb⟩)))).2
  refine .make (by simpa using ho) (fun i a' hi => ?_) (fun i j hi hj hne b hb1 hb2 => ?_) (fun g hg' i hi hm => ?_)
  · have hil : i < ls.length := by have := (List.getElem?_eq_some_iff.1 hi).1; simpa using this
    by_cases e : i = k
    · subst e
      rw [List.getElem?_set_self hil] at hi
      cases hi
      simp only [if_pos]
      rw [hx]
      refine ⟨hq, fun b hb1 => ?_⟩
      rcases hf b hb1 with h1 | h1
      · exact (h.el i ls[i] (List.getElem?_eq_getElem hil)).2 b h1
      · omega
    · rw [List.getElem?_set_ne (Ne.symm e)] at hi
      simp only [if_neg e]
      rw [hx2 i hil e]
      obtain ⟨h1, h2⟩ := h.el i a' hi
      exact ⟨E.kept h1 fun b hb1 => hb b (hfo i hil b hb1) (fun e2 => h.apart b e2 (mem_feet.2 ⟨i, hil, hb1⟩)) (feet_apart h.nd hil hk e hb1), h2⟩
  · rw [List.length_set] at hi hj
    by_cases e : i = k
    · subst e
      rw [if_pos rfl] at hb1
      rw [if_neg (Ne.symm hne)] at hb2
      rcases hf b hb1 with h1 | h1
      · exact feet_apart h.nd hi hj hne h1 hb2
      · have := hfo j hj b hb2; omega
    · rw [if_neg e] at hb1
      by_cases e2 : j = k
      · subst e2
        rw [if_pos rfl] at hb2
        rcases hf b hb2 with h1 | h1
        · exact feet_apart h.nd hi hj hne hb1 h1
        · have := hfo i hi b hb1; omega
      · rw [if_neg e2] at hb2
        exact feet_apart h.nd hi hj hne hb1 hb2
  · rw [List.length_set] at hi
    by_cases e : i = k
    · subst e
      rw [if_pos rfl] at hm
      rcases hf g hm with h1 | h1
      · exact h.apart g hg' (mem_feet.2 ⟨i, hi, h1⟩)
      · have := hvlt g hg'; omega
    · rw [if_neg e] at hm
      exact h.apart g hg' (mem_feet.2 ⟨i, hi, hm⟩)
/-- A slice of such elements, with all blocks. -/
def SlOwn (E : El α) (w : World) (v : Value) (ls : List α) (fp : List Nat) : Prop := ∃ xs fps, GRow E w 0 v xs ls fps ∧ fp = footOf v fps ls.length
theorem SlOwn.kept {E : El α} {w w' : World} {v : Value} {ls : List α} {fp : List Nat} (h : SlOwn E w v ls fp) (hb : ∀ b ∈ fp, w'.heap[b]? = w.heap[b]?) : SlOwn E w' v ls fp := by
  obtain ⟨xs, fps, h1, rfl⟩ := h
  exact ⟨xs, fps, h1.kept hb, rfl⟩
theorem SlOwn.lt {E : El α} {w : World} {v : Value} {ls : List α} {fp : List Nat} (h : SlOwn E w v ls fp) : ∀ b ∈ fp, b < w.heap.size := by
  obtain ⟨xs, fps, h1, rfl⟩ := h
  exact fun b hb => (h1.lt b hb).2
theorem SlOwn.nodup {E : El α} {w : World} {v : Value} {ls : List α} {fp : List Nat} (h : SlOwn E w v ls fp) : fp.Nodup := by
  obtain ⟨xs, fps, h1, rfl⟩ := h
  exact h1.nodup
theorem SlOwn.below {E : El α} {w w' : World} {v : Value} {ls : List α} {fp : List Nat} (h : SlOwn E w v ls fp) (hb : Below w.heap.size w w') : SlOwn E w' v ls fp := h.kept fun b hb' => hb.block b (h.lt b hb')
theorem SlOwn.nil (E : El α) (w : World) : SlOwn E w (.slice none 0 0) [] [] := ⟨[], fun _ => [], GRow.nil E w 0, by simp [footOf, feet, Value.ownBlock]⟩
theorem SlOwn.row {E : El α} {w : World} {v : Value} {ls : List α} {fp : List Nat} {B : Nat} (h : SlOwn E w v ls fp) (hB : ∀ b ∈ fp, B ≤ b) : ∃ xs fps, GRow E w B v xs ls fps ∧ fp = footOf v fps ls.length := by
  obtain ⟨xs, fps, h1, rfl⟩ := h
  exact ⟨xs, fps, h1.rebase hB, rfl⟩
theorem GRow.sl {E : El α} {w : World} {B : Nat} {v : Value} {xs : List Value} {ls : List α} {fps : Nat → List Nat} (h : GRow E w B v xs ls fps) : SlOwn E w v ls (footOf v fps ls.length) := ⟨xs, fps, h.rebase fun _ _ => Nat.zero_le _, rfl⟩
/-- A row of plain elements: no blocks but its own. -/
def RowOwn (ty : TypeId) (size : Nat) (w : World) (v : Value) (n : Nat) (xs : List Value) (fp : List Nat) : Prop := w.ownsRow 0 ty size v n xs ∧ fp = v.ownBlock.toList
theorem RowOwn.kept {ty : TypeId} {size : Nat} {w w' : World} {v : Value} {n : Nat} {xs : List Value} {fp : List Nat} (h : RowOwn ty size w v n xs fp) (hb : ∀ b ∈ fp, w'.heap[b]? = w.heap[b]?) : RowOwn ty size w' v n xs fp :=
  ⟨row_same h.1 fun g hg => hb g (by rw [h.2, hg]; simp), h.2⟩
theorem RowOwn.lt {ty : TypeId} {size : Nat} {w : World} {v : Value} {n : Nat} {xs : List Value} {fp : List Nat} (h : RowOwn ty size w v n xs fp) : ∀ b ∈ fp, b < w.heap.size := fun b hb => by
  rw [h.2, Option.mem_toList] at hb
  exact (h.1.lt b hb).2
theorem RowOwn.nodup {ty : TypeId} {size : Nat} {w : World} {v : Value} {n : Nat} {xs : List Value} {fp : List Nat} (h : RowOwn ty size w v n xs fp) : fp.Nodup := by
  rw [h.2]
  cases v.ownBlock <;> simp
end Go.Proofs.YtbifagdcnpnpjaaGreat
