/-
  No cell of these rows narrows 'for every input' (looked for: loops, veiled, ifaces, maps, wideKeys, modest, calm, conditions, laid).
  DERIVED. THE GIVEN ROWS OF THIS SEAT. 10 by the template 'for every input the law returns true; each argument reads behind the call as it read before'; 0 by the template 'total and deterministic' (their statements: YtmgpfhknkekeiaaTotals.lean).
  GIVEN WITH THE SEED: the statements are not yours to turn. If you find one false, say at which input.
  Laid BY PROGRAM, IN A SANDBOX (cutbox-rows.mjs): the forced cells as the released guide's own fill.sh prints them over the translation 8991b13e24490e95… (all of the seat's roots in one cut). By AI agents, Wed Nov 11 2026. No macro, syntax, notation, axiom, sorry.
-/
import Derived.Test.YtmgpfhknkekeiaaChecked
import GoSem.Claim
import GoSem.ClaimJoined
import GoSem.ClaimMapViews
import Derived.JoinedTies
import Derived.KernelRfl
namespace Go.Proofs.Ytmgpfhknkekeiaa
/- THE CELL 'sum', in the pinned program and in every row, IS THE sha256 OF THE DUMP (.gsa) THAT YtmgpfhknkekeiaaProg.lean LOADS. Nothing in Lean hashes anything: it is a label: what it is worth is what the hold of that sum in a sandbox is worth. -/
noncomputable def Try.pinned : Pinned := { name := "ytmgpfhknkekeiaa", sum := "8991b13e24490e95621ccfe0aa9db8e7303efa60d38cf01033d9e44c1c8c555b", checked := Try.checked }
namespace Rows
def none {H : Type} : Left H := { results := [], args := [] }

/-- 'laws.FnFar': WHATEVER THE INPUT: true; the input reads as it did. -/
def fnFarSpec : ChangeSpec := { name := "fnFar", fn := fun _ => fun
  | [d] => { results := [.lit (.bool true)], args := [d] }
  | _ => none }
def fnFarRow : OpenClaim := { program := "ytmgpfhknkekeiaa", sum := "8991b13e24490e95621ccfe0aa9db8e7303efa60d38cf01033d9e44c1c8c555b", func := "loop.example/spandrel/laws.FnFar", spec := "fnFar", apart := false }
def FnFarSaid : Prop := fnFarRow.holds Try.pinned (OpenSpec.ofChange fnFarSpec)

/-- ITS FALSE NEIGHBOUR: 'it returns false'. Refute it at one input. -/
def fnFarWrong : ChangeSpec := { name := "fnFar", fn := fun _ => fun
  | [d] => { results := [.lit (.bool false)], args := [d] }
  | _ => none }
def FnFarWrongFalsely : Prop := fnFarRow.holds Try.pinned (OpenSpec.ofChange fnFarWrong)

/-- 'laws.FnFarThree': WHATEVER THE INPUT: true; the input reads as it did. -/
def fnFarThreeSpec : ChangeSpec := { name := "fnFarThree", fn := fun _ => fun
  | [d1, d2] => { results := [.lit (.bool true)], args := [d1, d2] }
  | _ => none }
def fnFarThreeRow : OpenClaim := { program := "ytmgpfhknkekeiaa", sum := "8991b13e24490e95621ccfe0aa9db8e7303efa60d38cf01033d9e44c1c8c555b", func := "loop.example/spandrel/laws.FnFarThree", spec := "fnFarThree", apart := false }
def FnFarThreeSaid : Prop := fnFarThreeRow.holds Try.pinned (OpenSpec.ofChange fnFarThreeSpec)

/-- ITS FALSE NEIGHBOUR: 'it returns false'. Refute it at one input. -/
def fnFarThreeWrong : ChangeSpec := { name := "fnFarThree", fn := fun _ => fun
  | [d1, d2] => { results := [.lit (.bool false)], args := [d1, d2] }
  | _ => none }
def FnFarThreeWrongFalsely : Prop := fnFarThreeRow.holds Try.pinned (OpenSpec.ofChange fnFarThreeWrong)

/-- 'laws.FnFarOne': WHATEVER THE INPUT: true; the input reads as it did. -/
def fnFarOneSpec : ChangeSpec := { name := "fnFarOne", fn := fun _ => fun
  | [d] => { results := [.lit (.bool true)], args := [d] }
  | _ => none }
def fnFarOneRow : OpenClaim := { program := "ytmgpfhknkekeiaa", sum := "8991b13e24490e95621ccfe0aa9db8e7303efa60d38cf01033d9e44c1c8c555b", func := "loop.example/spandrel/laws.FnFarOne", spec := "fnFarOne", apart := false }
def FnFarOneSaid : Prop := fnFarOneRow.holds Try.pinned (OpenSpec.ofChange fnFarOneSpec)

/-- ITS FALSE NEIGHBOUR: 'it returns false'. Refute it at one input. -/
def fnFarOneWrong : ChangeSpec := { name := "fnFarOne", fn := fun _ => fun
  | [d] => { results := [.lit (.bool false)], args := [d] }
  | _ => none }
def FnFarOneWrongFalsely : Prop := fnFarOneRow.holds Try.pinned (OpenSpec.ofChange fnFarOneWrong)

/-- 'laws.FnMark': WHATEVER THE INPUT: true; the input reads as it did. -/
def fnMarkSpec : ChangeSpec := { name := "fnMark", fn := fun _ => fun
  | [d] => { results := [.lit (.bool true)], args := [d] }
  | _ => none }
def fnMarkRow : OpenClaim := { program := "ytmgpfhknkekeiaa", sum := "8991b13e24490e95621ccfe0aa9db8e7303efa60d38cf01033d9e44c1c8c555b", func := "loop.example/spandrel/laws.FnMark", spec := "fnMark", inPlace := ["internal/abi.NoEscape"], unfollowed := true, recurses := true, apart := false }
def FnMarkSaid : Prop := fnMarkRow.holds Try.pinned (OpenSpec.ofChange fnMarkSpec)

/-- ITS FALSE NEIGHBOUR: 'it returns false'. Refute it at one input. -/
def fnMarkWrong : ChangeSpec := { name := "fnMark", fn := fun _ => fun
  | [d] => { results := [.lit (.bool false)], args := [d] }
  | _ => none }
def FnMarkWrongFalsely : Prop := fnMarkRow.holds Try.pinned (OpenSpec.ofChange fnMarkWrong)

/-- 'laws.FnMarkAll': WHATEVER THE INPUT: true; the input reads as it did. -/
def fnMarkAllSpec : ChangeSpec := { name := "fnMarkAll", fn := fun _ => fun
  | [d] => { results := [.lit (.bool true)], args := [d] }
  | _ => none }
def fnMarkAllRow : OpenClaim := { program := "ytmgpfhknkekeiaa", sum := "8991b13e24490e95621ccfe0aa9db8e7303efa60d38cf01033d9e44c1c8c555b", func := "loop.example/spandrel/laws.FnMarkAll", spec := "fnMarkAll", inPlace := ["internal/abi.NoEscape"], unfollowed := true, recurses := true, apart := false }
def FnMarkAllSaid : Prop := fnMarkAllRow.holds Try.pinned (OpenSpec.ofChange fnMarkAllSpec)

/-- ITS FALSE NEIGHBOUR: 'it returns false'. Refute it at one input. -/
def fnMarkAllWrong : ChangeSpec := { name := "fnMarkAll", fn := fun _ => fun
  | [d] => { results := [.lit (.bool false)], args := [d] }
  | _ => none }
def FnMarkAllWrongFalsely : Prop := fnMarkAllRow.holds Try.pinned (OpenSpec.ofChange fnMarkAllWrong)

/-- 'laws.FnSnip': WHATEVER THE INPUT: true; the input reads as it did. -/
def fnSnipSpec : ChangeSpec := { name := "fnSnip", fn := fun _ => fun
  | [d] => { results := [.lit (.bool true)], args := [d] }
  | _ => none }
def fnSnipRow : OpenClaim := { program := "ytmgpfhknkekeiaa", sum := "8991b13e24490e95621ccfe0aa9db8e7303efa60d38cf01033d9e44c1c8c555b", func := "loop.example/spandrel/laws.FnSnip", spec := "fnSnip", unfollowed := true, recurses := true, apart := false }
def FnSnipSaid : Prop := fnSnipRow.holds Try.pinned (OpenSpec.ofChange fnSnipSpec)

/-- ITS FALSE NEIGHBOUR: 'it returns false'. Refute it at one input. -/
def fnSnipWrong : ChangeSpec := { name := "fnSnip", fn := fun _ => fun
  | [d] => { results := [.lit (.bool false)], args := [d] }
  | _ => none }
def FnSnipWrongFalsely : Prop := fnSnipRow.holds Try.pinned (OpenSpec.ofChange fnSnipWrong)

/-- 'laws.FnSnipAll': WHATEVER THE INPUT: true; the input reads as it did. -/
def fnSnipAllSpec : ChangeSpec := { name := "fnSnipAll", fn := fun _ => fun
  | [d] => { results := [.lit (.bool true)], args := [d] }
  | _ => none }
def fnSnipAllRow : OpenClaim := { program := "ytmgpfhknkekeiaa", sum := "8991b13e24490e95621ccfe0aa9db8e7303efa60d38cf01033d9e44c1c8c555b", func := "loop.example/spandrel/laws.FnSnipAll", spec := "fnSnipAll", unfollowed := true, recurses := true, apart := false }
def FnSnipAllSaid : Prop := fnSnipAllRow.holds Try.pinned (OpenSpec.ofChange fnSnipAllSpec)

/-- ITS FALSE NEIGHBOUR: 'it returns false'. Refute it at one input. -/
def fnSnipAllWrong : ChangeSpec := { name := "fnSnipAll", fn := fun _ => fun
  | [d] => { results := [.lit (.bool false)], args := [d] }
  | _ => none }
def FnSnipAllWrongFalsely : Prop := fnSnipAllRow.holds Try.pinned (OpenSpec.ofChange fnSnipAllWrong)

/-- 'laws.FnExactFar': WHATEVER THE INPUT: true; the input reads as it did. -/
def fnExactFarSpec : ChangeSpec := { name := "fnExactFar", fn := fun _ => fun
  | [d1, d2] => { results := [.lit (.bool true)], args := [d1, d2] }
  | _ => none }
def fnExactFarRow : OpenClaim := { program := "ytmgpfhknkekeiaa", sum := "8991b13e24490e95621ccfe0aa9db8e7303efa60d38cf01033d9e44c1c8c555b", func := "loop.example/spandrel/laws.FnExactFar", spec := "fnExactFar", apart := false }
def FnExactFarSaid : Prop := fnExactFarRow.holds Try.pinned (OpenSpec.ofChange fnExactFarSpec)

/-- ITS FALSE NEIGHBOUR: 'it returns false'. Refute it at one input. -/
def fnExactFarWrong : ChangeSpec := { name := "fnExactFar", fn := fun _ => fun
  | [d1, d2] => { results := [.lit (.bool false)], args := [d1, d2] }
  | _ => none }
def FnExactFarWrongFalsely : Prop := fnExactFarRow.holds Try.pinned (OpenSpec.ofChange fnExactFarWrong)

/-- 'laws.FnExactMark': WHATEVER THE INPUT: true; the input reads as it did. -/
def fnExactMarkSpec : ChangeSpec := { name := "fnExactMark", fn := fun _ => fun
  | [d1, d2] => { results := [.lit (.bool true)], args := [d1, d2] }
  | _ => none }
def fnExactMarkRow : OpenClaim := { program := "ytmgpfhknkekeiaa", sum := "8991b13e24490e95621ccfe0aa9db8e7303efa60d38cf01033d9e44c1c8c555b", func := "loop.example/spandrel/laws.FnExactMark", spec := "fnExactMark", inPlace := ["internal/abi.NoEscape"], unfollowed := true, recurses := true, apart := false }
def FnExactMarkSaid : Prop := fnExactMarkRow.holds Try.pinned (OpenSpec.ofChange fnExactMarkSpec)

/-- ITS FALSE NEIGHBOUR: 'it returns false'. Refute it at one input. -/
def fnExactMarkWrong : ChangeSpec := { name := "fnExactMark", fn := fun _ => fun
  | [d1, d2] => { results := [.lit (.bool false)], args := [d1, d2] }
  | _ => none }
def FnExactMarkWrongFalsely : Prop := fnExactMarkRow.holds Try.pinned (OpenSpec.ofChange fnExactMarkWrong)

/-- 'laws.FnExactSnip': WHATEVER THE INPUT: true; the input reads as it did. -/
def fnExactSnipSpec : ChangeSpec := { name := "fnExactSnip", fn := fun _ => fun
  | [d1, d2, d3] => { results := [.lit (.bool true)], args := [d1, d2, d3] }
  | _ => none }
def fnExactSnipRow : OpenClaim := { program := "ytmgpfhknkekeiaa", sum := "8991b13e24490e95621ccfe0aa9db8e7303efa60d38cf01033d9e44c1c8c555b", func := "loop.example/spandrel/laws.FnExactSnip", spec := "fnExactSnip", unfollowed := true, recurses := true, apart := false }
def FnExactSnipSaid : Prop := fnExactSnipRow.holds Try.pinned (OpenSpec.ofChange fnExactSnipSpec)

/-- ITS FALSE NEIGHBOUR: 'it returns false'. Refute it at one input. -/
def fnExactSnipWrong : ChangeSpec := { name := "fnExactSnip", fn := fun _ => fun
  | [d1, d2, d3] => { results := [.lit (.bool false)], args := [d1, d2, d3] }
  | _ => none }
def FnExactSnipWrongFalsely : Prop := fnExactSnipRow.holds Try.pinned (OpenSpec.ofChange fnExactSnipWrong)

/- THE SECOND FORM. 'bulk': how many values and letters a reading holds, each counted each time it is reached (what is shared counts as often as it is met; a slice's spare places count too). A statement '..UptoSaid' is the law's where the arguments, and the package variables that the reading takes, are together of bulk at most 1048576: NARROWER than '..Said'. Prove '..Said' where nothing that the law and all that it calls make is longer than what came in: it says more and counts as full. Else prove '..UptoSaid'. A law counts once. -/
mutual
def uptoBulk {H : Type} : DataW H → Nat
  | .lit (.string bytes) => bytes.length + 1
  | .lit _ => 1
  | .nil => 1
  | .ptr d => uptoBulk d + 1
  | .slice elems spare => uptoBulkAll elems + uptoBulkAll spare + 1
  | .agg parts => uptoBulkAll parts + 1
  | .iface _ d => uptoBulk d + 1
  | .map entries => uptoBulkEntries entries + 1
  | .held _ => 1
def uptoBulkAll {H : Type} : List (DataW H) → Nat
  | [] => 0
  | d :: r => uptoBulk d + uptoBulkAll r
def uptoBulkEntries {H : Type} : List (Lit × DataW H) → Nat
  | [] => 0
  | x :: r => uptoBulkEntry x + uptoBulkEntries r
def uptoBulkEntry {H : Type} : Lit × DataW H → Nat
  | (.string bytes, d) => bytes.length + uptoBulk d + 1
  | (_, d) => uptoBulk d + 1
 end
def uptoSmall : (H : Type) → List (DataW H) → Bool := fun _ ds => decide (uptoBulkAll ds ≤ 1048576)
def OpenSpec.upto (s : _root_.Go.ChangeSpec) : _root_.Go.OpenSpec := { _root_.Go.OpenSpec.ofChange s with cond := some uptoSmall }

/-- 'laws.FnFar', WHERE WHAT IT READS IS OF BULK AT MOST 1048576: true; the input reads as it did. -/
def fnFarUptoRow : OpenClaim := { program := "ytmgpfhknkekeiaa", sum := "8991b13e24490e95621ccfe0aa9db8e7303efa60d38cf01033d9e44c1c8c555b", func := "loop.example/spandrel/laws.FnFar", spec := "fnFar", apart := false, narrowed := true }
def FnFarUptoSaid : Prop := fnFarUptoRow.holds Try.pinned (OpenSpec.upto fnFarSpec)

/-- 'laws.FnFarThree', WHERE WHAT IT READS IS OF BULK AT MOST 1048576: true; the input reads as it did. -/
def fnFarThreeUptoRow : OpenClaim := { program := "ytmgpfhknkekeiaa", sum := "8991b13e24490e95621ccfe0aa9db8e7303efa60d38cf01033d9e44c1c8c555b", func := "loop.example/spandrel/laws.FnFarThree", spec := "fnFarThree", apart := false, narrowed := true }
def FnFarThreeUptoSaid : Prop := fnFarThreeUptoRow.holds Try.pinned (OpenSpec.upto fnFarThreeSpec)

/-- 'laws.FnFarOne', WHERE WHAT IT READS IS OF BULK AT MOST 1048576: true; the input reads as it did. -/
def fnFarOneUptoRow : OpenClaim := { program := "ytmgpfhknkekeiaa", sum := "8991b13e24490e95621ccfe0aa9db8e7303efa60d38cf01033d9e44c1c8c555b", func := "loop.example/spandrel/laws.FnFarOne", spec := "fnFarOne", apart := false, narrowed := true }
def FnFarOneUptoSaid : Prop := fnFarOneUptoRow.holds Try.pinned (OpenSpec.upto fnFarOneSpec)

/-- 'laws.FnMark', WHERE WHAT IT READS IS OF BULK AT MOST 1048576: true; the input reads as it did. -/
def fnMarkUptoRow : OpenClaim := { program := "ytmgpfhknkekeiaa", sum := "8991b13e24490e95621ccfe0aa9db8e7303efa60d38cf01033d9e44c1c8c555b", func := "loop.example/spandrel/laws.FnMark", spec := "fnMark", inPlace := ["internal/abi.NoEscape"], unfollowed := true, recurses := true, apart := false, narrowed := true }
def FnMarkUptoSaid : Prop := fnMarkUptoRow.holds Try.pinned (OpenSpec.upto fnMarkSpec)

/-- 'laws.FnMarkAll', WHERE WHAT IT READS IS OF BULK AT MOST 1048576: true; the input reads as it did. -/
def fnMarkAllUptoRow : OpenClaim := { program := "ytmgpfhknkekeiaa", sum := "8991b13e24490e95621ccfe0aa9db8e7303efa60d38cf01033d9e44c1c8c555b", func := "loop.example/spandrel/laws.FnMarkAll", spec := "fnMarkAll", inPlace := ["internal/abi.NoEscape"], unfollowed := true, recurses := true, apart := false, narrowed := true }
def FnMarkAllUptoSaid : Prop := fnMarkAllUptoRow.holds Try.pinned (OpenSpec.upto fnMarkAllSpec)

/-- 'laws.FnSnip', WHERE WHAT IT READS IS OF BULK AT MOST 1048576: true; the input reads as it did. -/
def fnSnipUptoRow : OpenClaim := { program := "ytmgpfhknkekeiaa", sum := "8991b13e24490e95621ccfe0aa9db8e7303efa60d38cf01033d9e44c1c8c555b", func := "loop.example/spandrel/laws.FnSnip", spec := "fnSnip", unfollowed := true, recurses := true, apart := false, narrowed := true }
def FnSnipUptoSaid : Prop := fnSnipUptoRow.holds Try.pinned (OpenSpec.upto fnSnipSpec)

/-- 'laws.FnSnipAll', WHERE WHAT IT READS IS OF BULK AT MOST 1048576: true; the input reads as it did. -/
def fnSnipAllUptoRow : OpenClaim := { program := "ytmgpfhknkekeiaa", sum := "8991b13e24490e95621ccfe0aa9db8e7303efa60d38cf01033d9e44c1c8c555b", func := "loop.example/spandrel/laws.FnSnipAll", spec := "fnSnipAll", unfollowed := true, recurses := true, apart := false, narrowed := true }
def FnSnipAllUptoSaid : Prop := fnSnipAllUptoRow.holds Try.pinned (OpenSpec.upto fnSnipAllSpec)

/-- 'laws.FnExactFar', WHERE WHAT IT READS IS OF BULK AT MOST 1048576: true; the input reads as it did. -/
def fnExactFarUptoRow : OpenClaim := { program := "ytmgpfhknkekeiaa", sum := "8991b13e24490e95621ccfe0aa9db8e7303efa60d38cf01033d9e44c1c8c555b", func := "loop.example/spandrel/laws.FnExactFar", spec := "fnExactFar", apart := false, narrowed := true }
def FnExactFarUptoSaid : Prop := fnExactFarUptoRow.holds Try.pinned (OpenSpec.upto fnExactFarSpec)

/-- 'laws.FnExactMark', WHERE WHAT IT READS IS OF BULK AT MOST 1048576: true; the input reads as it did. -/
def fnExactMarkUptoRow : OpenClaim := { program := "ytmgpfhknkekeiaa", sum := "8991b13e24490e95621ccfe0aa9db8e7303efa60d38cf01033d9e44c1c8c555b", func := "loop.example/spandrel/laws.FnExactMark", spec := "fnExactMark", inPlace := ["internal/abi.NoEscape"], unfollowed := true, recurses := true, apart := false, narrowed := true }
def FnExactMarkUptoSaid : Prop := fnExactMarkUptoRow.holds Try.pinned (OpenSpec.upto fnExactMarkSpec)

/-- 'laws.FnExactSnip', WHERE WHAT IT READS IS OF BULK AT MOST 1048576: true; the input reads as it did. -/
def fnExactSnipUptoRow : OpenClaim := { program := "ytmgpfhknkekeiaa", sum := "8991b13e24490e95621ccfe0aa9db8e7303efa60d38cf01033d9e44c1c8c555b", func := "loop.example/spandrel/laws.FnExactSnip", spec := "fnExactSnip", unfollowed := true, recurses := true, apart := false, narrowed := true }
def FnExactSnipUptoSaid : Prop := fnExactSnipUptoRow.holds Try.pinned (OpenSpec.upto fnExactSnipSpec)

end Rows
end Go.Proofs.Ytmgpfhknkekeiaa
