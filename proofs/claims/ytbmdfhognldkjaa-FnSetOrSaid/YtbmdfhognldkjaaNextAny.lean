/- One step of oneByOne whatever is left; what of the world a step keeps; the state of two lists side by side. -/
import Derived.Test.YtbmdfhognldkjaaNext
import Derived.Test.YtbmdfhognldkjaaMerge
import Derived.OwnWalkIn
import Derived.TacticsInMore
import Derived.LoopNIn
import Derived.LoopIn
import Derived.Shelf.Abstract
namespace Go.Proofs.Ytbmdfhognldkjaa
open Go.RowKit Go.Shelf

theorem nth_past (zs : List Int) (k : Nat) (h : ¬ k < zs.length) : nth zs k = 0 := by unfold nth; rw [List.getD_eq_getElem?_getD, List.getElem?_eq_none (by omega)]; rfl

/-- A row of ints that lies below a mark. -/
def RowLow (n₀ : Nat) (w : World) (a : Option Addr) (zs : List Int) : Prop := 0 < zs.length → ∃ g off, a = some ⟨g, off, none⟩ ∧ g < n₀ ∧ g < w.heap.size ∧ ∀ i, i < zs.length → w.cell? ⟨g, off + i, none⟩ = some (.int .i64 (nth zs i))
theorem RowLow.row {n₀ : Nat} {w : World} {a : Option Addr} {zs : List Int} (h : RowLow n₀ w a zs) : IntRow w a zs := fun hp => by
  obtain ⟨g, off, e, _, hg, hc⟩ := h hp
  exact ⟨g, off, e, hg, hc⟩
theorem RowLow.keep {n₀ : Nat} {w w' : World} {a : Option Addr} {zs : List Int} (h : RowLow n₀ w a zs) (hb : Below n₀ w w') : RowLow n₀ w' a zs := fun hp => by
  obtain ⟨g, off, e, h0, hg, hc⟩ := h hp
  exact ⟨g, off, e, h0, by have := hb.size; omega, fun i hi => by rw [hb.cell (p := ⟨g, off + i, none⟩) h0]; exact hc i hi⟩

/-- The world behind a step: the same, or one box written. -/
def Stepped (B : Nat) (w w' : World) : Prop := w' = w ∨ ∃ v, w' = w.setCell ⟨B, 0, none⟩ v
theorem Stepped.below {B n₀ : Nat} {w w' : World} (h : Stepped B w w') (hB : n₀ ≤ B) : Below n₀ w w' := by
  rcases h with rfl | ⟨v, rfl⟩
  · exact Below.refl _ _
  · exact (Below.refl _ w).setCell (p := ⟨B, 0, none⟩) hB v
theorem Stepped.size {B : Nat} {w w' : World} (h : Stepped B w w') : w'.heap.size = w.heap.size := by
  rcases h with rfl | ⟨v, rfl⟩
  · rfl
  · simp [World.setCell]
theorem Stepped.block {B k : Nat} {w w' : World} (h : Stepped B w w') (hk : k ≠ B) : w'.heap[k]? = w.heap[k]? := by
  rcases h with rfl | ⟨v, rfl⟩
  · rfl
  · exact Below.heap_setCell _ _ _ _ (by exact hk)

theorem next_any (Ba Bl : Nat) (a : Option Addr) (cap k : Nat) (zs : List Int) (n₀ : Nat) (w : World) (hz : zs.length ≤ 1099511627776) (hr : RowLow n₀ w a zs) (hk : k ≤ zs.length) (hn : n₀ ≤ Ba)
    (hA : Boxed w Ba 3 (.int .i64 k)) (hL : Boxed w Bl 23 (.slice a zs.length cap)) (hne : Bl ≠ Ba) :
    Calls Try.prog 54 #[.pointer (some ⟨Ba, 0, none⟩), .pointer (some ⟨Bl, 0, none⟩)] w fun e w' => e = .returned (.tuple #[.int .i64 (nth zs k), .bool (decide (k < zs.length))]) ∧ Boxed w' Ba 3 (.int .i64 ((min (k + 1) zs.length : Nat) : Int)) ∧ Stepped Ba w w' := by
  by_cases h : k < zs.length
  · refine (next_some Ba Bl a cap k zs w hz hr.row h hA hL hne (fun g off e => ?_)).mono ?_
    · obtain ⟨g', off', e', h0, _⟩ := hr (by omega)
      rw [e] at e'
      simp only [Option.some.injEq, Addr.mk.injEq] at e'
      omega
    · rintro e w' ⟨rfl, rfl⟩
      refine ⟨by simp [h], ?_, .inr ⟨_, rfl⟩⟩
      rw [show min (k + 1) zs.length = k + 1 from by omega]
      exact hA.set _
  · have e : k = zs.length := by omega
    subst e
    refine (next_none Ba Bl a cap zs w hA hL).mono ?_
    rintro e w' ⟨rfl, rfl⟩
    refine ⟨by rw [nth_past _ _ h]; simp, ?_, .inl rfl⟩
    rw [show min (zs.length + 1) zs.length = zs.length from by omega]
    exact hA

/-- The iterator's own boxes, from S on: both lists and how far each is. -/
structure St (n₀ S : Nat) (a b : Option Addr) (ca cb : Nat) (zs ys : List Int) (V : World) (i j : Nat) : Prop where
  la : Boxed V S 23 (.slice a zs.length ca)
  ia : Boxed V (S + 1) 3 (.int .i64 ((min i zs.length : Nat) : Int))
  lb : Boxed V (S + 2) 23 (.slice b ys.length cb)
  ib : Boxed V (S + 3) 3 (.int .i64 ((min j ys.length : Nat) : Int))
  ra : RowLow n₀ V a zs
  rb : RowLow n₀ V b ys
  sz : S + 4 ≤ V.heap.size
theorem St.stepA {n₀ S : Nat} {a b : Option Addr} {ca cb : Nat} {zs ys : List Int} {V V' : World} {i j : Nat} (h : St n₀ S a b ca cb zs ys V i j) (hS : n₀ ≤ S) (hs : Stepped (S + 1) V V') (hb : Boxed V' (S + 1) 3 (.int .i64 ((min (i + 1) zs.length : Nat) : Int))) : St n₀ S a b ca cb zs ys V' (i + 1) j :=
  ⟨(hs.block (by omega)).trans h.la, hb, (hs.block (by omega)).trans h.lb, (hs.block (by omega)).trans h.ib, h.ra.keep (hs.below (by omega)), h.rb.keep (hs.below (by omega)), by rw [hs.size]; exact h.sz⟩
theorem St.stepB {n₀ S : Nat} {a b : Option Addr} {ca cb : Nat} {zs ys : List Int} {V V' : World} {i j : Nat} (h : St n₀ S a b ca cb zs ys V i j) (hS : n₀ ≤ S) (hs : Stepped (S + 3) V V') (hb : Boxed V' (S + 3) 3 (.int .i64 ((min (j + 1) ys.length : Nat) : Int))) : St n₀ S a b ca cb zs ys V' i (j + 1) :=
  ⟨(hs.block (by omega)).trans h.la, (hs.block (by omega)).trans h.ia, (hs.block (by omega)).trans h.lb, hb, h.ra.keep (hs.below (by omega)), h.rb.keep (hs.below (by omega)), by rw [hs.size]; exact h.sz⟩
/-- What a round keeps for the iterator. -/
structure Kz (n₀ S : Nat) (X Y : World) : Prop where
  below : Below n₀ X Y
  mine : ∀ k, S ≤ k → k < S + 4 → Y.heap[k]? = X.heap[k]?
  own : ∀ k c, S ≤ k → X.heap[k]? = some (.cells c 42 (0, 0)) → Y.heap[k]? = X.heap[k]?
theorem St.kept {n₀ S : Nat} {a b : Option Addr} {ca cb : Nat} {zs ys : List Int} {V V' : World} {i j : Nat} (h : St n₀ S a b ca cb zs ys V i j) (hk : Kz n₀ S V V') : St n₀ S a b ca cb zs ys V' i j :=
  ⟨(hk.mine _ (by omega) (by omega)).trans h.la, (hk.mine _ (by omega) (by omega)).trans h.ia, (hk.mine _ (by omega) (by omega)).trans h.lb, (hk.mine _ (by omega) (by omega)).trans h.ib, h.ra.keep hk.below, h.rb.keep hk.below, by have := hk.below.size; have := h.sz; omega⟩
theorem St.alloc {n₀ S : Nat} {a b : Option Addr} {ca cb : Nat} {zs ys : List Int} {V : World} {i j : Nat} (h : St n₀ S a b ca cb zs ys V i j) (hS : n₀ ≤ S) (o : Obj) : St n₀ S a b ca cb zs ys (V.alloc o) i j :=
  have hb : Below n₀ V (V.alloc o) := (Below.refl _ V).alloc (by have := h.sz; omega) o
  ⟨h.la.alloc o, h.ia.alloc o, h.lb.alloc o, h.ib.alloc o, h.ra.keep hb, h.rb.keep hb, by have := h.sz; simp; omega⟩

def encT (x : Int × Bool × Bool) : Array Value := #[.int .i64 x.1, .agg #[.bool x.2.1, .bool x.2.2]]
/-- The block of an owner. -/
def Own2 (W : World) (B : Nat) (p q : Bool) : Prop := W.heap[B]? = some (.cells #[.bool p, .bool q] 42 (0, 0))
theorem Own2.c0 {W : World} {B : Nat} {p q : Bool} (h : Own2 W B p q) : W.cell? ⟨B, 0, none⟩ = some (.bool p) := by simp [World.cell?, show W.heap[B]? = _ from h]
theorem Own2.c1 {W : World} {B : Nat} {p q : Bool} (h : Own2 W B p q) : W.cell? ⟨B, 1, none⟩ = some (.bool q) := by simp [World.cell?, show W.heap[B]? = _ from h]
end Go.Proofs.Ytbmdfhognldkjaa
