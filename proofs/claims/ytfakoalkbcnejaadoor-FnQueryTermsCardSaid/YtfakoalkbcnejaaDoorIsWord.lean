/- The contract of isWord. -/
import Derived.Test.YtfakoalkbcnejaaDoorWords
namespace Go.Proofs.YtfakoalkbcnejaaDoor
open Go.RowKit

def isWordB (s : ByteArray) : Bool := !s.toList.isEmpty && ((wordEnd s 0 : Int) == (s.size : Int))
theorem isWord_any (s : ByteArray) (w : World) (hs : s.size ≤ 1099511627776) :
    Calls Tryd.prog 60 #[.string s] w fun e w' => e = .returned (.bool (isWordB s)) ∧ w = w' := by
  cases he : s.toList.isEmpty
  all_goals
    go_enter Tryd.func60, Tryd.ntmps60
    go_wp2_with (go_at_call 85; refine (wordEnd_any s 0 _ hs (Nat.zero_le _)).mono ?_; rintro e _ ⟨rfl, rfl⟩)
    go_ret
    exact ⟨ret_bool (by simp [isWordB, he]), rfl⟩
end Go.Proofs.YtfakoalkbcnejaaDoor
