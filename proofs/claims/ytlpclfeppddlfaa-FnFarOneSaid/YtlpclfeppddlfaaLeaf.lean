/- Contracts of the small functions on bytes: each answers as the Bool function beside it and leaves the world as it was. -/
import Derived.Test.YtlpclfeppddlfaaRows
import Derived.WalkKit
import Derived.ProofKit
import Derived.WalkSpells
import Derived.WalkLawsBesides
import Derived.Below
namespace Go.Proofs.Ytlpclfeppddlfaa
open Go.RowKit

def greatB (n : Int) : Bool := decide (65 ≤ n) && decide (n ≤ 90)
def smallB (n : Int) : Bool := decide (97 ≤ n) && decide (n ≤ 122)
def figureB (n : Int) : Bool := decide (48 ≤ n) && decide (n ≤ 57)
def lowI (n : Int) : Int := if greatB n then n + 32 else n
theorem lowI_yes (n : Int) (h1 : 65 ≤ n) (h2 : n ≤ 90) : lowI n = n + 32 := by simp [lowI, greatB, h1, h2]
theorem lowI_no (n : Int) (h : n < 65 ∨ 90 < n) : lowI n = n := by
  unfold lowI
  rw [if_neg]
  simp [greatB]
  omega

end Go.Proofs.Ytlpclfeppddlfaa
