/- The marks that the exact laws lay into an answer and look for again: markText. -/
import Derived.Test.YtelkaieknliflaaDoorStrRow
import Derived.Shelf.RegionOpen
namespace Go.Proofs.YtelkaieknliflaaDoor
open Go.RowKit

def digU (k : Nat) : UInt8 := UInt8.ofNat (48 + k % 10)
theorem digU_toNat (k : Nat) : ((digU k).toNat : Int) = 48 + (k : Int) % 10 := by
  unfold digU
  rw [UInt8.toNat_ofNat']
  omega
def decF : Nat → Nat → ByteArray → ByteArray
  | 0, _, o => o
  | f + 1, k, o => if k = 0 then o else decF f (k / 10) (⟨#[digU k]⟩ ++ o)
def markT (k : Nat) : ByteArray := ⟨#[109]⟩ ++ decF k k ⟨#[]⟩
theorem decF_step (f j : Nat) (o : ByteArray) (hj : j ≠ 0) (hf : j ≤ f) : ∃ f', j / 10 ≤ f' ∧ decF f j o = decF f' (j / 10) (⟨#[digU j]⟩ ++ o) := by
  cases f with
  | zero => omega
  | succ f' => exact ⟨f', by omega, by rw [decF, if_neg hj]⟩
theorem decF_zero (f : Nat) (o : ByteArray) : decF f 0 o = o := by
  cases f with
  | zero => rfl
  | succ f' => rw [decF, if_pos rfl]

end Go.Proofs.YtelkaieknliflaaDoor
