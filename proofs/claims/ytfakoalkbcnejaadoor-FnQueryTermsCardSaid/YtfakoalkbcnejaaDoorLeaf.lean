/- Contracts of the small functions on bytes: each answers as the Bool function beside it and leaves the world as it was. -/
import Derived.Test.YtfakoalkbcnejaaDoorRows
import Derived.WalkKit
import Derived.ProofKit
import Derived.WalkSpells
import Derived.WalkLawsBesides
import Derived.Below
namespace Go.Proofs.YtfakoalkbcnejaaDoor
open Go.RowKit

def greatB (n : Int) : Bool := decide (65 ≤ n) && decide (n ≤ 90)
def smallB (n : Int) : Bool := decide (97 ≤ n) && decide (n ≤ 122)
def figureB (n : Int) : Bool := decide (48 ≤ n) && decide (n ≤ 57)
def lowI (n : Int) : Int := if greatB n then n + 32 else n
theorem lowI_yes (n : Int) (h1 : 65 ≤ n) (h2 : n ≤ 90) : lowI n = n + 32 := by simp [lowI, greatB, h1, h2]
theorem lowI_no (n : Int) (h : n < 65 ∨ 90 < n) : lowI n = n := by
  unfold lowI
  rw [if_neg]
  simp [greatB]
  omega

theorem isGreat_any (n : Int) (w : World) :
    Calls Tryd.prog 112 #[.int .u8 n] w fun e w' => e = .returned (.bool (greatB n)) ∧ w = w' := by
  by_cases h1 : 65 ≤ n <;> by_cases h2 : n ≤ 90
  all_goals
    go_enter Tryd.func112, Tryd.ntmps112
    go_wp2
    go_ret
    exact ⟨by simp [greatB, h1, h2], rfl⟩

theorem isSmall_any (n : Int) (w : World) :
    Calls Tryd.prog 84 #[.int .u8 n] w fun e w' => e = .returned (.bool (smallB n)) ∧ w = w' := by
  by_cases h1 : 97 ≤ n <;> by_cases h2 : n ≤ 122
  all_goals
    go_enter Tryd.func84, Tryd.ntmps84
    go_wp2
    go_ret
    exact ⟨by simp [smallB, h1, h2], rfl⟩

theorem isFigure_any (n : Int) (w : World) :
    Calls Tryd.prog 83 #[.int .u8 n] w fun e w' => e = .returned (.bool (figureB n)) ∧ w = w' := by
  by_cases h1 : 48 ≤ n <;> by_cases h2 : n ≤ 57
  all_goals
    go_enter Tryd.func83, Tryd.ntmps83
    go_wp2
    go_ret
    exact ⟨by simp [figureB, h1, h2], rfl⟩
end Go.Proofs.YtfakoalkbcnejaaDoor
