/- strings.Cut at one byte. -/
import Derived.Test.YtelkaieknliflaaDoorSplitAny
import Derived.Test.YtelkaieknliflaaDoorCutPat
namespace Go.Proofs.YtelkaieknliflaaDoor
open Go.RowKit
set_option linter.unusedVariables false

theorem below_drewN (w : World) (n : Nat) : Below w.heap.size w (w.drewN n) := ⟨rfl, rfl, rfl, Nat.le_refl _, fun _ _ => rfl⟩
theorem cut_yes (p : ByteArray) (b : UInt8) (w : World) (hs : p.size ≤ 1048576) (hm : MaxL w) (h : two b p = true) :
    Calls Tryd.prog 40 #[.string p, .string ⟨#[b]⟩] w fun e w' => e = .returned (.tuple #[.string (pat (cuts b 1 p) 0), .string (pat (cuts b 1 p) 1), .bool true]) ∧ Below w.heap.size w w' := by
  obtain ⟨m, hm⟩ := hm
  refine (Tryd.strings_Cut p ⟨#[b]⟩ m w (by omega) hm).mono ?_
  rintro e w' ⟨rfl, n, rfl⟩
  obtain ⟨_, e1, e2, e3⟩ := two_yes h
  refine ⟨?_, below_drewN w n⟩
  show Ending.returned (.tuple #[.string ⟨(Lib.cut p.data.toList [b]).1.toArray⟩, .string ⟨(Lib.cut p.data.toList [b]).2.1.toArray⟩, .bool (Lib.cut p.data.toList [b]).2.2]) = _
  rw [e1, e2, e3]
theorem cut_no (p : ByteArray) (b : UInt8) (w : World) (hs : p.size ≤ 1048576) (hm : MaxL w) (h : two b p = false) :
    Calls Tryd.prog 40 #[.string p, .string ⟨#[b]⟩] w fun e w' => e = .returned (.tuple #[.string p, .string ⟨#[]⟩, .bool false]) ∧ Below w.heap.size w w' := by
  obtain ⟨m, hm⟩ := hm
  refine (Tryd.strings_Cut p ⟨#[b]⟩ m w (by omega) hm).mono ?_
  rintro e w' ⟨rfl, n, rfl⟩
  obtain ⟨_, e1, e2, e3⟩ := two_no h
  refine ⟨?_, below_drewN w n⟩
  show Ending.returned (.tuple #[.string ⟨(Lib.cut p.data.toList [b]).1.toArray⟩, .string ⟨(Lib.cut p.data.toList [b]).2.1.toArray⟩, .bool (Lib.cut p.data.toList [b]).2.2]) = _
  rw [e1, e2, e3]
end Go.Proofs.YtelkaieknliflaaDoor
