/- The contract of l11Doc. -/
import Derived.Test.YtelkaieknliflaaDoorDrawDoc
import Derived.Deep.CutBlock
namespace Go.Proofs.YtelkaieknliflaaDoor
open Go.RowKit

def namesA : Array Value := #[.string ⟨#[98, 111, 100, 121]⟩, .string ⟨#[99, 111, 108, 111, 114]⟩, .string ⟨#[112, 114, 105, 99, 101]⟩, .string ⟨#[116, 105, 116, 108, 101]⟩]
theorem names_at {w : World} {N : Nat} {t : TypeId} (h : Blk w N namesA t) (k : Nat) (hk : k < 4) : ∃ s : ByteArray, w.cell? ⟨N, k, none⟩ = some (.string s) ∧ s.size ≤ 5 := by
  rw [h.cell k]
  match k, hk with
  | 0, _ => exact ⟨_, rfl, by decide⟩
  | 1, _ => exact ⟨_, rfl, by decide⟩
  | 2, _ => exact ⟨_, rfl, by decide⟩
  | 3, _ => exact ⟨_, rfl, by decide⟩

theorem Blk.ne {w : World} {A B : Nat} {C E : Array Value} {s t : TypeId} (h : Blk w A C s) (k : Blk w B E t) (hst : s ≠ t) : A ≠ B := by
  intro e
  subst e
  unfold Blk at h k
  rw [h] at k
  simp only [Option.some.injEq, Obj.cells.injEq] at k
  exact hst k.2.1
end Go.Proofs.YtelkaieknliflaaDoor
