/- Contracts of l1Many, l11Text, l11AnyText and of the draws of a text. -/
import Derived.Test.YtfakoalkbcnejaaDoorDrawText
namespace Go.Proofs.YtfakoalkbcnejaaDoor
open Go.RowKit

theorem many_odd (t y q : Nat) : t + y + (y + y) * q = t + y * (2 * q + 1) := by
  rw [Nat.add_mul, Nat.mul_add, Nat.mul_one, Nat.mul_left_comm]
  omega
theorem many_even (t y q : Nat) : t + (y + y) * q = t + y * (2 * q) := by
  rw [Nat.add_mul, Nat.mul_left_comm]
  omega

theorem grown_below {w w1 w2 : World} (hb : Below w.heap.size w w1) (hg : w1.grownBy w2 (some w.heap.size)) : Below w.heap.size w w2 :=
  hb.grown hg hb.size (fun j hj => by cases hj; exact Nat.le_refl _)

end Go.Proofs.YtfakoalkbcnejaaDoor
