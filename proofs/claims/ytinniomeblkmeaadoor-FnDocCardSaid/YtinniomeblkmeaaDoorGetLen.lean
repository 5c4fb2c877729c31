/- How many cells are read at most. -/
import Derived.Test.YtinniomeblkmeaaDoorDocGetPlain
namespace Go.Proofs.YtinniomeblkmeaaDoor
open Go.RowKit

theorem getC_len (s : ByteArray) : (getC s).length ≤ 4 := by
  unfold getC
  cases h : getB s with
  | false => simp
  | true =>
    have h1 : docOkP (dparts s) = true := h
    simp only [docOkP, Bool.and_eq_true] at h1
    exact (form_of h1.2).2.1
end Go.Proofs.YtinniomeblkmeaaDoor
