/- Rows whose elements own blocks: an element put in between; which blocks change. -/
import Derived.Test.YtbifagdcnpnpjaaGreatFoot
namespace Go.Proofs.YtbifagdcnpnpjaaGreat
open Go.RowKit
set_option linter.unusedVariables false

/-- Only blocks of fp, and new ones, may have changed. -/
def Tch (fp : List Nat) (w w' : World) : Prop := Below 0 w w' ∧ ∀ b, b < w.heap.size → b ∉ fp → w'.heap[b]? = w.heap[b]?
theorem Tch.refl (fp : List Nat) (w : World) : Tch fp w w := ⟨Below.refl _ _, fun _ _ _ => rfl⟩
theorem Tch.of_below {fp : List Nat} {w w' : World} (h : Below w.heap.size w w') : Tch fp w w' := ⟨⟨h.os, h.tape, h.output, h.size, fun _ h => by omega⟩, fun b hb _ => h.block b hb⟩
theorem Tch.of_grown {fp : List Nat} {w w' : World} {r : Option Nat} (h : w.grownBy w' r) (hg : ∀ b, r = some b → b ∈ fp) : Tch fp w w' := ⟨⟨h.os, h.tape, h.output, h.size, fun _ h => by omega⟩, fun b hb hn => h.block b hb (fun e => hn (hg b e.symm))⟩
theorem Tch.set {fp : List Nat} {w : World} {p : Addr} (hp : p.block ∈ fp) (v : Value) : Tch fp w (w.setCell p v) :=
  ⟨⟨rfl, rfl, rfl, by simp [World.setCell], fun _ h => by omega⟩, fun b hb hn => Below.heap_setCell _ _ _ _ (fun e => hn (by rw [e]; exact hp))⟩
theorem Tch.mono' {fp fq : List Nat} {w w' : World} (h : Tch fp w w') (hs : ∀ b ∈ fp, b ∈ fq) : Tch fq w w' := ⟨h.1, fun b hb hn => h.2 b hb (fun hm => hn (hs b hm))⟩
theorem Tch.trans {fp : List Nat} {u v w : World} (h : Tch fp u v) (k : Tch fp v w) : Tch fp u w := ⟨h.1.trans k.1, fun b hb hn => (k.2 b (Nat.lt_of_lt_of_le hb h.1.size) hn).trans (h.2 b hb hn)⟩
/-- What is new in the first step may change in the second. -/
theorem Tch.then {fp fq : List Nat} {u v w : World} (h : Tch fp u v) (k : Tch fq v w) (hq : ∀ b ∈ fq, b ∈ fp ∨ u.heap.size ≤ b) : Tch fp u w :=
  ⟨h.1.trans k.1, fun b hb hn => (k.2 b (Nat.lt_of_lt_of_le hb h.1.size) (fun hm => by rcases hq b hm with h1 | h1; exact hn h1; omega)).trans (h.2 b hb hn)⟩
theorem Tch.below {fp : List Nat} {w w' : World} {B : Nat} (h : Tch fp w w') (hB : ∀ b ∈ fp, B ≤ b) (hw : B ≤ w.heap.size) : Below B w w' := ⟨h.1.os, h.1.tape, h.1.output, h.1.size, fun b hb => h.2 b (by omega) (fun hm => by have := hB b hm; omega)⟩
theorem Tch.size {fp : List Nat} {w w' : World} (h : Tch fp w w') : w.heap.size ≤ w'.heap.size := h.1.size
/-- What owns none of these blocks is kept. -/
theorem GRow.tch {α : Type} {E : El α} {w w' : World} {B : Nat} {v : Value} {xs : List Value} {ls : List α} {fps : Nat → List Nat} {fp : List Nat} (h : GRow E w B v xs ls fps) (ht : Tch fp w w') (hn : ∀ b ∈ footOf v fps ls.length, b ∉ fp) : GRow E w' B v xs ls fps :=
  h.kept fun b hb => ht.2 b (h.lt b hb).2 (hn b hb)
theorem row_tch {w w' : World} {B n size : Nat} {v : Value} {e : TypeId} {xs : List Value} {fp : List Nat} (h : w.ownsRow B e size v n xs) (ht : Tch fp w w') (hn : ∀ g, v.ownBlock = some g → g ∉ fp) : w'.ownsRow B e size v n xs :=
  row_same h fun g hg => ht.2 g (h.lt g hg).2 (hn g hg)
/-- An element put in between, the row lying anew. -/
theorem GRow.insert {α : Type} {E : El α} {w W w8 : World} {B k : Nat} {v v8 : Value} {xs c : List Value} {ls : List α} {fps : Nat → List Nat} {a : α} {fp : List Nat} (h : GRow E w B v xs ls fps) (hB : B ≤ w.heap.size) (hbW : Below w.heap.size w W)
    (hq : E.own W c a fp) (hf : ∀ b ∈ fp, w.heap.size ≤ b) (hk : k ≤ ls.length) (ho : w8.ownsRow W.heap.size E.ty E.size v8 (ls.length + 1) (xs.take (k * E.size) ++ c ++ xs.drop (k * E.size))) (hb8 : Below W.heap.size W w8) :
    ∃ fps', GRow E w8 B v8 (xs.take (k * E.size) ++ c ++ xs.drop (k * E.size)) (ls.take k ++ a :: ls.drop k) fps' ∧ ∀ b ∈ footOf v8 fps' (ls.take k ++ a :: ls.drop k).length, b ∈ footOf v fps ls.length ∨ w.heap.size ≤ b := by
  have hxl := h.row.1
  have hlen : (ls.take k ++ a :: ls.drop k).length = ls.length + 1 := by simp; omega
  have hkl : k * E.size ≤ xs.length := by rw [hxl]; exact Nat.mul_le_mul_right _ hk
  have htl : (xs.take (k * E.size)).length = k * E.size := by simp; omega
  have hcl := E.len hq
  have hfo : ∀ i, i < ls.length → ∀ b ∈ fps i, b < w.heap.size := fun i hi b hb => (h.lt b (mem_footOf.2 (.inr (mem_feet.2 ⟨i, hi, hb⟩)))).2
  have hkeep : ∀ b, b < w.heap.size → w8.heap[b]? = w.heap[b]? := fun b hb => (hb8.block b (Nat.lt_of_lt_of_le hb hbW.size)).trans (hbW.block b hb)
  have hg8 : ∀ g, v8.ownBlock = some g → W.heap.size ≤ g := fun g hg => (ho.lt g hg).1
  have hWs := hbW.size
  refine ⟨fun i => if i < k then fps i else if i = k then fp else fps (i - 1), .make (by rw [hlen]; exact ownsRow_mono ho (Nat.le_trans hB hbW.size)) (fun i x hi => ?_) (fun i j hi hj hne b hb hb2 => ?_) (fun g hg i hi hm => ?_), fun b hb => ?_⟩
  · have hil : i < ls.length + 1 := by have := (List.getElem?_eq_some_iff.1 hi).1; omega
    by_cases h1 : i < k
    · simp only [if_pos h1]
      rw [List.getElem?_append_left (by simp; omega), List.getElem?_take, if_pos h1] at hi
      obtain ⟨h2, h3⟩ := h.el i x hi
      rw [List.append_assoc, grp_left htl h1, grp_take h1]
      exact ⟨E.kept h2 fun b hb => hkeep b (hfo i (by omega) b hb), h3⟩
    · by_cases h2 : i = k
      · subst h2
        simp only [if_neg h1, if_pos]
        rw [List.getElem?_append_right (by simp; omega), show i - (ls.take i).length = 0 by simp; omega] at hi
        cases hi
        have e : grp (xs.take (i * E.size) ++ c ++ xs.drop (i * E.size)) E.size i = c := by
          rw [grp_left (n := i + 1) (by rw [List.length_append, htl, hcl, Nat.add_mul, Nat.one_mul]) (by omega), grp_last htl hcl]
        rw [e]
        exact ⟨E.kept hq fun b hb => hb8.block b (E.lt hq b hb), fun b hb => Nat.le_trans hB (hf b hb)⟩
      · simp only [if_neg h1, if_neg h2]
        rw [List.getElem?_append_right (by simp; omega), show i - (ls.take k).length = (i - 1 - k) + 1 by simp; omega, List.getElem?_cons_succ, List.getElem?_drop, show k + (i - 1 - k) = i - 1 by omega] at hi
        obtain ⟨h3, h4⟩ := h.el (i - 1) x hi
        have e : grp (xs.take (k * E.size) ++ c ++ xs.drop (k * E.size)) E.size i = grp xs E.size (i - 1) := by
          have e1 : i = (k + 1) + (i - 1 - k) := by omega
          rw [e1, grp_skip (n := k + 1) (by rw [List.length_append, htl, hcl, Nat.add_mul, Nat.one_mul]), grp_drop]
          congr 1
          omega
        rw [e]
        exact ⟨E.kept h3 fun b hb => hkeep b (hfo (i - 1) (by omega) b hb), h4⟩
  · rw [hlen] at hi hj
    have key : ∀ i, i < ls.length + 1 → ∀ b, b ∈ (if i < k then fps i else if i = k then fp else fps (i - 1)) → (i ≠ k → b ∈ fps (if i < k then i else i - 1)) ∧ (i = k → b ∈ fp) := fun i hi b hb => by
      by_cases h1 : i < k
      · rw [if_pos h1] at hb; exact ⟨fun _ => by rw [if_pos h1]; exact hb, fun e => by omega⟩
      · rw [if_neg h1] at hb
        by_cases h2 : i = k
        · rw [if_pos h2] at hb; exact ⟨fun e => absurd h2 e, fun _ => hb⟩
        · rw [if_neg h2] at hb; exact ⟨fun _ => by rw [if_neg h1]; exact hb, fun e => absurd e h2⟩
    obtain ⟨a1, a2⟩ := key i hi b hb
    obtain ⟨b1, b2⟩ := key j hj b hb2
    by_cases e : i = k
    · have h1 := hf b (a2 e)
      have h2 := hfo (if j < k then j else j - 1) (by split <;> omega) b (b1 (by omega))
      omega
    · by_cases e2 : j = k
      · have h1 := hf b (b2 e2)
        have h2 := hfo (if i < k then i else i - 1) (by split <;> omega) b (a1 e)
        omega
      · exact feet_apart h.nd (i := if i < k then i else i - 1) (j := if j < k then j else j - 1) (by split <;> omega) (by split <;> omega) (by split <;> split <;> omega) (a1 e) (b1 e2)
  · rw [hlen] at hi
    have h1 := hg8 g hg
    by_cases h2 : i < k
    · rw [if_pos h2] at hm; have := hfo i (by omega) g hm; omega
    · rw [if_neg h2] at hm
      by_cases h3 : i = k
      · rw [if_pos h3] at hm
        have := E.lt hq g hm
        omega
      · rw [if_neg h3] at hm; have := hfo (i - 1) (by omega) g hm; omega
  · rcases mem_footOf.1 hb with hb | hb
    · have := hg8 b hb; exact .inr (by omega)
    · obtain ⟨i, hi, hb⟩ := mem_feet.1 hb
      rw [hlen] at hi
      by_cases h2 : i < k
      · rw [if_pos h2] at hb; exact .inl (mem_footOf.2 (.inr (mem_feet.2 ⟨i, by omega, hb⟩)))
      · rw [if_neg h2] at hb
        by_cases h3 : i = k
        · rw [if_pos h3] at hb; exact .inr (hf b hb)
        · rw [if_neg h3] at hb; exact .inl (mem_footOf.2 (.inr (mem_feet.2 ⟨i - 1, by omega, hb⟩)))
/-- All cells are one cell wide. -/
theorem GRow.one {α : Type} {E : El α} {w : World} {B : Nat} {v : Value} {xs : List Value} {ls : List α} {fps : Nat → List Nat} (h : GRow E w B v xs ls fps) (hs : 0 < E.size) (h1 : ∀ w c a fp, E.own w c a fp → ∀ u ∈ c, u.oneCell' = true) : ∀ u ∈ xs, u.oneCell' = true := by
  intro u hu
  obtain ⟨j, hj, rfl⟩ := List.getElem_of_mem hu
  have hj' : j < ls.length * E.size := by rw [← h.row.1]; exact hj
  have hi : j / E.size < ls.length := by rw [Nat.div_lt_iff_lt_mul hs]; exact hj'
  obtain ⟨h2, _⟩ := h.el (j / E.size) ls[j / E.size] (List.getElem?_eq_getElem hi)
  have hm := Nat.mod_lt j hs
  have e : (grp xs E.size (j / E.size))[j % E.size]? = some xs[j] := by
    rw [grp_get hm, show j / E.size * E.size + j % E.size = j from by rw [Nat.mul_comm]; exact Nat.div_add_mod j E.size, List.getElem?_eq_getElem hj]
  exact h1 _ _ _ _ h2 _ (List.mem_of_getElem? e)
/-- What lies in the row, read in a later world. -/
theorem row_reads {w w' : World} {B g n c s : Nat} {e : TypeId} {xs : List Value} (h : w.ownsRow B e s (.slice (some ⟨g, 0, none⟩) n c) n xs) (hb : Below w.heap.size w w') : ∀ j u, xs[j]? = some u → w'.cell? ((⟨g, 0, none⟩ : Addr).add j) = some u := by
  intro j u hj
  have hl := (List.getElem?_eq_some_iff.1 hj).1
  have hg := (h.lt g rfl).2
  have e : (⟨g, 0, none⟩ : Addr).add j = ⟨g, j, none⟩ := by unfold Addr.add; by_cases e : j = 0 <;> simp [e]
  rw [e, hb.cell (p := ⟨g, j, none⟩) hg, h.cellAt j (by rw [← h.1]; exact hl)]
  exact hj
end Go.Proofs.YtbifagdcnpnpjaaGreat
