/- A block of the call's own, with what it holds. -/
import Derived.Test.YtbifagdcnpnpjaaGreatCommon
namespace Go.Proofs.YtbifagdcnpnpjaaGreat
open Go.RowKit
theorem bcell {W w1 : World} (hb : Below W.heap.size W w1) : (∀ b o, b < W.heap.size → w1.cell? ⟨b, o, none⟩ = W.cell? ⟨b, o, none⟩) ∧ (∀ b o, b < W.heap.size → w1.frozen? ⟨b, o, none⟩ = W.frozen? ⟨b, o, none⟩) :=
  ⟨fun b o h => hb.cell (p := ⟨b, o, none⟩) h, fun b o h => hb.frozen (p := ⟨b, o, none⟩) h⟩
def Blk (w : World) (B : Nat) (C : Array Value) (t : TypeId) : Prop := w.heap[B]? = some (.cells C t (0, 0))
theorem Blk.new (w : World) (C : Array Value) (t : TypeId) : Blk (w.alloc (.cells C t)) w.heap.size C t := heap_alloc_new w _
theorem Blk.lt {w : World} {B : Nat} {C : Array Value} {t : TypeId} (h : Blk w B C t) : B < w.heap.size := lt_of_block h
theorem Blk.below {w w' : World} {B n : Nat} {C : Array Value} {t : TypeId} (h : Blk w B C t) (hb : Below n w w') (hn : B < n) : Blk w' B C t := (hb.block B hn).trans h
theorem Blk.cell {w : World} {B : Nat} {C : Array Value} {t : TypeId} (h : Blk w B C t) (j : Nat) : w.cell? ⟨B, j, none⟩ = C[j]? := by
  unfold Blk at h
  simp [World.cell?, h]
theorem Blk.frozen {w : World} {B : Nat} {C : Array Value} {t : TypeId} (h : Blk w B C t) (j : Nat) : w.frozen? ⟨B, j, none⟩ = false := by
  unfold Blk at h
  simp [World.frozen?, h]
theorem Blk.set {w : World} {B : Nat} {C : Array Value} {t : TypeId} (h : Blk w B C t) (j : Nat) (v : Value) : Blk (w.setCell ⟨B, j, none⟩ v) B (C.setIfInBounds j v) t := by
  unfold Blk at h ⊢
  simp only [World.setCell, Array.getElem?_modify, if_true, h]
  rfl
theorem Blk.alloc {w : World} {B : Nat} {C : Array Value} {t : TypeId} (h : Blk w B C t) (o : Obj) : Blk (w.alloc o) B C t := by
  have := h.lt
  unfold Blk at h ⊢
  rw [Below.heap_alloc w o B this]
  exact h
theorem Blk.other {w : World} {B : Nat} {C : Array Value} {t : TypeId} (h : Blk w B C t) {p : Addr} (hp : B ≠ p.block) (v : Value) : Blk (w.setCell p v) B C t := by
  unfold Blk at h ⊢
  rw [Below.heap_setCell _ _ _ _ hp]
  exact h
theorem Blk.over {w w0 w' : World} {B n : Nat} {C : Array Value} {t : TypeId} (h : Blk w B C t) (hb : Below n w0 w') (hn : B < n) (hh : w0.heap = w.heap) : Blk w' B C t := by
  refine (hb.block B hn).trans ?_
  rw [hh]
  exact h
theorem below_drew {n : Nat} {a b : World} (h : Below n a b) : Below n a b.drew := h.trans ⟨rfl, rfl, rfl, Nat.le_refl _, fun _ _ => rfl⟩
theorem Blk.grown {w w' : World} {B : Nat} {C : Array Value} {t : TypeId} {r : Option Nat} (h : Blk w B C t) (hg : w.grownBy w' r) (hn : some B ≠ r) : Blk w' B C t := (hg.block B h.lt hn).trans h
end Go.Proofs.YtbifagdcnpnpjaaGreat
