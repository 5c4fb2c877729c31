/- The contract of l10Fields. -/
import Derived.Test.YtlbigfgjalmhiaaFlds
import Derived.Test.YtlbigfgjalmhiaaDrawText
namespace Go.Proofs.Ytlbigfgjalmhiaa
open Go.RowKit

def fields4 : List Fld := [⟨⟨#[116, 105, 116, 108, 101]⟩, 1, 3⟩, ⟨⟨#[98, 111, 100, 121]⟩, 1, 1⟩, ⟨⟨#[112, 114, 105, 99, 101]⟩, 2, 0⟩, ⟨⟨#[99, 111, 108, 111, 114]⟩, 3, 0⟩]
set_option maxHeartbeats 1000000 in
theorem l10Fields_any (w : World) :
    Calls Try.prog 36 #[] w fun e w' => e = .returned (.slice (some ⟨w.heap.size, 0, none⟩) fields4.length 4) ∧ FldRow w' (some ⟨w.heap.size, 0, none⟩) fields4 ∧ Below w.heap.size w w' := by
  go_enter Try.func36, Try.ntmps36
  go_wp2
  go_ret
  refine ⟨rfl, fun _ => ⟨_, 0, rfl, by simp, fun i hi => ?_⟩, (Below.refl _ w).alloc (Nat.le_refl _) _⟩
  match i, hi with
  | 0, _ => exact ⟨World.cell?_alloc_new _ _ _ _, World.cell?_alloc_new _ _ _ _, World.cell?_alloc_new _ _ _ _⟩
  | 1, _ => exact ⟨World.cell?_alloc_new _ _ _ _, World.cell?_alloc_new _ _ _ _, World.cell?_alloc_new _ _ _ _⟩
  | 2, _ => exact ⟨World.cell?_alloc_new _ _ _ _, World.cell?_alloc_new _ _ _ _, World.cell?_alloc_new _ _ _ _⟩
  | 3, _ => exact ⟨World.cell?_alloc_new _ _ _ _, World.cell?_alloc_new _ _ _ _, World.cell?_alloc_new _ _ _ _⟩
end Go.Proofs.Ytlbigfgjalmhiaa
