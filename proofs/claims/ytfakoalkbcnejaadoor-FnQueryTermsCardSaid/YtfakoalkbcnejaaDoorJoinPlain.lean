/- Texts joined: plain mathematics. -/
import Derived.Test.YtfakoalkbcnejaaDoorPlain
import Derived.Lib.Join
namespace Go.Proofs.YtfakoalkbcnejaaDoor
open Go.RowKit
theorem join_two (x y : List UInt8) (r : List (List UInt8)) (sep : List UInt8) : Lib.join (x :: y :: r) sep = x ++ sep ++ Lib.join (y :: r) sep := by
  simp [Lib.join, List.intercalate, List.intersperse]
theorem join_snoc (x sep : List UInt8) : ∀ (y : List UInt8) (xs : List (List UInt8)), Lib.join ((y :: xs) ++ [x]) sep = Lib.join (y :: xs) sep ++ sep ++ x
  | y, [] => by rw [List.cons_append, List.nil_append, join_two, Lib.join_one, Lib.join_one]
  | y, z :: zs => by
    have ih := join_snoc x sep z zs
    rw [List.cons_append] at ih
    rw [List.cons_append, List.cons_append, join_two, ih, join_two]
    simp
end Go.Proofs.YtfakoalkbcnejaaDoor
