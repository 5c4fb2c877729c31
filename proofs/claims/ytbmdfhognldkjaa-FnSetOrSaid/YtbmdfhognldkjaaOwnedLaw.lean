/- Behind an append into the list of ownedBy. -/
import Derived.Test.YtbmdfhognldkjaaOwned
namespace Go.Proofs.Ytbmdfhognldkjaa
open Go.RowKit Go.Shelf

theorem own2_own (B : Nat) (p q : Bool) : Own (fun (_ : Unit) W => Own2 W B p q) := fun _ X Y row hs hg hrow =>
  (hg.block B (Array.getElem?_eq_some_iff.1 hs).1 (fun e' => by obtain ⟨o, ho, hc⟩ := hrow B e'.symm; rw [show X.heap[B]? = _ from hs] at ho; cases ho; cases hc)).trans hs
theorem appendedZ {W w1 : World} {N : Nat} {t : TypeId} {v v' F : Value} {tf : TypeId} {k m : Nat} {xs ys : List Value} {tmp : Obj}
    (hv : Boxed W (N + 1) t v) (hF : Boxed W N tf F) (hte : t ≠ 3) (hrow : W.ownsRow (N + 10) 3 1 v k xs) (hbW : N + 10 ≤ W.heap.size)
    (hown' : w1.ownsRow (N + 10) 3 1 v' m ys) (hgrow : (W.alloc tmp).grownBy w1 v.ownBlock) :
    Boxed w1 (N + 1) t v ∧ Boxed (w1.setCell ⟨N + 1, 0, none⟩ v') (N + 1) t v' ∧ Boxed (w1.setCell ⟨N + 1, 0, none⟩ v') N tf F ∧ (w1.setCell ⟨N + 1, 0, none⟩ v').ownsRow (N + 10) 3 1 v' m ys ∧ KeepsOthers W (w1.setCell ⟨N + 1, 0, none⟩ v') ∧ Kz N (N + 6) W (w1.setCell ⟨N + 1, 0, none⟩ v') := by
  have hv1 : Boxed w1 (N + 1) t v := (hv.alloc tmp).kept hgrow (hv.not_row hte hrow)
  have hrl : ∀ j, v.ownBlock = some j → N + 10 ≤ j := fun j ej => (hrow.lt j ej).1
  have hlow : ∀ i, i < N + 10 → i ≠ N + 1 → (w1.setCell ⟨N + 1, 0, none⟩ v').heap[i]? = W.heap[i]? := fun i h1 h2 => by
    rw [Below.heap_setCell _ _ _ _ (by exact h2), hgrow.block i (by simp; omega) (fun e => by have := hrl i e.symm; omega), Below.heap_alloc _ _ _ (by omega)]
  have hko : KeepsOthers W (w1.setCell ⟨N + 1, 0, none⟩ v') := by
    refine ((KeepsOthers.alloc W tmp).trans (KeepsOthers.of_grownBy hgrow fun j o ej hj => ?_)).trans (KeepsOthers.setCell _ _ _)
    rcases (hrow.alloc tmp).2 with ⟨rfl, _⟩ | ⟨g, cap, cur, rfl, _, hgb, _⟩
    · simp [Value.ownBlock] at ej
    · obtain rfl : g = j := by simpa [Value.ownBlock] using ej
      rw [hgb] at hj; cases hj; rfl
  refine ⟨hv1, hv1.set v', (hlow N (by omega) (by omega)).trans hF, hown'.kept (grownBy_setCell' w1 (N + 1) v') (.inr (hv1.not_row hte hown').symm), hko, ?_, fun i h1 h2 => hlow i (by omega) (by omega), fun i c h1 h2 => ?_⟩
  · exact (((Below.refl N W).alloc (by omega) tmp).grown hgrow (by simp; omega) fun j ej => by have := hrl j ej; omega).setCell (p := ⟨N + 1, 0, none⟩) (by show N ≤ N + 1; omega) v'
  · have hlt := (Array.getElem?_eq_some_iff.1 h2).1
    rw [Below.heap_setCell _ _ _ _ (by show i ≠ N + 1; omega), hgrow.block i (by simp; omega) (fun e => ?_), Below.heap_alloc _ _ _ hlt]
    rcases hrow.2 with ⟨rfl, _⟩ | ⟨g, cap, cur, rfl, _, hgb, _⟩
    · simp [Value.ownBlock] at e
    · obtain rfl : g = i := by simpa [Value.ownBlock] using e.symm
      rw [hgb] at h2
      simp at h2
end Go.Proofs.Ytbmdfhognldkjaa
