/- Which texts may stand in a cell: impl.isPlain, impl.textOk, spec.l2Text. -/
import Derived.Test.YtfakoalkbcnejaaDoorIn
import Derived.Test.YtfakoalkbcnejaaDoorPlain
import Derived.WalkKit
import Derived.ProofKit
import Derived.WalkSpells
import Derived.WalkLawsBesides
import Derived.WalkSmall
namespace Go.Proofs.YtfakoalkbcnejaaDoor
open Go.RowKit

def seenB (s : ByteArray) (j : Nat) : Bool := decide (32 ≤ byteAt s j) && decide (byteAt s j ≤ 126)
/-- A text may stand in a cell. -/
def textB (s : ByteArray) : Bool := decide ((s.size : Int) ≤ 60) && allTo (seenB s) s.size
theorem textB_no (s : ByteArray) (k : Nat) (h : k < s.size) (hf : seenB s k = false) : textB s = false := by
  unfold textB
  rw [allTo_false _ _ k h hf]
  simp

def plainB (s : ByteArray) : Bool := allTo (seenB s) s.size

end Go.Proofs.YtfakoalkbcnejaaDoor
