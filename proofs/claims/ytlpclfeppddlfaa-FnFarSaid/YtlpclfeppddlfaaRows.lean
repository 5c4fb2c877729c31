/-
  No cell of these rows narrows 'for every input' (looked for: loops, veiled, ifaces, maps, wideKeys, modest, calm, conditions, laid).
  DERIVED. THE GIVEN ROWS OF THIS SEAT. 4 by the template 'for every input the law returns true; each argument reads behind the call as it read before'; 0 by the template 'total and deterministic' (their statements: YtlpclfeppddlfaaTotals.lean).
  GIVEN WITH THE SEED: the statements are not yours to turn. If you find one false, say at which input.
  Laid BY PROGRAM, IN A SANDBOX (cutbox-rows.mjs): the forced cells as the released guide's own fill.sh prints them over the translation 83987e6c5717281f… (all of the seat's roots in one cut). By AI agents, Wed Nov 11 2026. No macro, syntax, notation, axiom, sorry.
-/
import Derived.Test.YtlpclfeppddlfaaChecked
import GoSem.Claim
import GoSem.ClaimJoined
import GoSem.ClaimMapViews
import Derived.JoinedTies
import Derived.KernelRfl
namespace Go.Proofs.Ytlpclfeppddlfaa
/- THE CELL 'sum', in the pinned program and in every row, IS THE sha256 OF THE DUMP (.gsa) THAT YtlpclfeppddlfaaProg.lean LOADS. Nothing in Lean hashes anything: it is a label: what it is worth is what the hold of that sum in a sandbox is worth. -/
noncomputable def Try.pinned : Pinned := { name := "ytlpclfeppddlfaa", sum := "83987e6c5717281f1f253973cf9a533f70997f6abc47bf2a267a86b79ef648f8", checked := Try.checked }
namespace Rows
def none {H : Type} : Left H := { results := [], args := [] }

/-- 'laws.FnFar': WHATEVER THE INPUT: true; the input reads as it did. -/
def fnFarSpec : ChangeSpec := { name := "fnFar", fn := fun _ => fun
  | [d] => { results := [.lit (.bool true)], args := [d] }
  | _ => none }
def fnFarRow : OpenClaim := { program := "ytlpclfeppddlfaa", sum := "83987e6c5717281f1f253973cf9a533f70997f6abc47bf2a267a86b79ef648f8", func := "loop.example/spandrel/laws.FnFar", spec := "fnFar", apart := false }
def FnFarSaid : Prop := fnFarRow.holds Try.pinned (OpenSpec.ofChange fnFarSpec)

/-- ITS FALSE NEIGHBOUR: 'it returns false'. Refute it at one input. -/
def fnFarWrong : ChangeSpec := { name := "fnFar", fn := fun _ => fun
  | [d] => { results := [.lit (.bool false)], args := [d] }
  | _ => none }
def FnFarWrongFalsely : Prop := fnFarRow.holds Try.pinned (OpenSpec.ofChange fnFarWrong)

/-- 'laws.FnFarThree': WHATEVER THE INPUT: true; the input reads as it did. -/
def fnFarThreeSpec : ChangeSpec := { name := "fnFarThree", fn := fun _ => fun
  | [d1, d2] => { results := [.lit (.bool true)], args := [d1, d2] }
  | _ => none }
def fnFarThreeRow : OpenClaim := { program := "ytlpclfeppddlfaa", sum := "83987e6c5717281f1f253973cf9a533f70997f6abc47bf2a267a86b79ef648f8", func := "loop.example/spandrel/laws.FnFarThree", spec := "fnFarThree", apart := false }
def FnFarThreeSaid : Prop := fnFarThreeRow.holds Try.pinned (OpenSpec.ofChange fnFarThreeSpec)

/-- ITS FALSE NEIGHBOUR: 'it returns false'. Refute it at one input. -/
def fnFarThreeWrong : ChangeSpec := { name := "fnFarThree", fn := fun _ => fun
  | [d1, d2] => { results := [.lit (.bool false)], args := [d1, d2] }
  | _ => none }
def FnFarThreeWrongFalsely : Prop := fnFarThreeRow.holds Try.pinned (OpenSpec.ofChange fnFarThreeWrong)

/-- 'laws.FnFarOne': WHATEVER THE INPUT: true; the input reads as it did. -/
def fnFarOneSpec : ChangeSpec := { name := "fnFarOne", fn := fun _ => fun
  | [d] => { results := [.lit (.bool true)], args := [d] }
  | _ => none }
def fnFarOneRow : OpenClaim := { program := "ytlpclfeppddlfaa", sum := "83987e6c5717281f1f253973cf9a533f70997f6abc47bf2a267a86b79ef648f8", func := "loop.example/spandrel/laws.FnFarOne", spec := "fnFarOne", apart := false }
def FnFarOneSaid : Prop := fnFarOneRow.holds Try.pinned (OpenSpec.ofChange fnFarOneSpec)

/-- ITS FALSE NEIGHBOUR: 'it returns false'. Refute it at one input. -/
def fnFarOneWrong : ChangeSpec := { name := "fnFarOne", fn := fun _ => fun
  | [d] => { results := [.lit (.bool false)], args := [d] }
  | _ => none }
def FnFarOneWrongFalsely : Prop := fnFarOneRow.holds Try.pinned (OpenSpec.ofChange fnFarOneWrong)

/-- 'laws.FnExactFar': WHATEVER THE INPUT: true; the input reads as it did. -/
def fnExactFarSpec : ChangeSpec := { name := "fnExactFar", fn := fun _ => fun
  | [d1, d2] => { results := [.lit (.bool true)], args := [d1, d2] }
  | _ => none }
def fnExactFarRow : OpenClaim := { program := "ytlpclfeppddlfaa", sum := "83987e6c5717281f1f253973cf9a533f70997f6abc47bf2a267a86b79ef648f8", func := "loop.example/spandrel/laws.FnExactFar", spec := "fnExactFar", apart := false }
def FnExactFarSaid : Prop := fnExactFarRow.holds Try.pinned (OpenSpec.ofChange fnExactFarSpec)

/-- ITS FALSE NEIGHBOUR: 'it returns false'. Refute it at one input. -/
def fnExactFarWrong : ChangeSpec := { name := "fnExactFar", fn := fun _ => fun
  | [d1, d2] => { results := [.lit (.bool false)], args := [d1, d2] }
  | _ => none }
def FnExactFarWrongFalsely : Prop := fnExactFarRow.holds Try.pinned (OpenSpec.ofChange fnExactFarWrong)

/- THE SECOND FORM. 'bulk': how many values and letters a reading holds, each counted each time it is reached (what is shared counts as often as it is met; a slice's spare places count too). A statement '..UptoSaid' is the law's where the arguments, and the package variables that the reading takes, are together of bulk at most 1048576: NARROWER than '..Said'. Prove '..Said' where nothing that the law and all that it calls make is longer than what came in: it says more and counts as full. Else prove '..UptoSaid'. A law counts once. -/
mutual
def uptoBulk {H : Type} : DataW H → Nat
  | .lit (.string bytes) => bytes.length + 1
  | .lit _ => 1
  | .nil => 1
  | .ptr d => uptoBulk d + 1
  | .slice elems spare => uptoBulkAll elems + uptoBulkAll spare + 1
  | .agg parts => uptoBulkAll parts + 1
  | .iface _ d => uptoBulk d + 1
  | .map entries => uptoBulkEntries entries + 1
  | .held _ => 1
def uptoBulkAll {H : Type} : List (DataW H) → Nat
  | [] => 0
  | d :: r => uptoBulk d + uptoBulkAll r
def uptoBulkEntries {H : Type} : List (Lit × DataW H) → Nat
  | [] => 0
  | x :: r => uptoBulkEntry x + uptoBulkEntries r
def uptoBulkEntry {H : Type} : Lit × DataW H → Nat
  | (.string bytes, d) => bytes.length + uptoBulk d + 1
  | (_, d) => uptoBulk d + 1
 end
def uptoSmall : (H : Type) → List (DataW H) → Bool := fun _ ds => decide (uptoBulkAll ds ≤ 1048576)
def OpenSpec.upto (s : _root_.Go.ChangeSpec) : _root_.Go.OpenSpec := { _root_.Go.OpenSpec.ofChange s with cond := some uptoSmall }

/-- 'laws.FnFar', WHERE WHAT IT READS IS OF BULK AT MOST 1048576: true; the input reads as it did. -/
def fnFarUptoRow : OpenClaim := { program := "ytlpclfeppddlfaa", sum := "83987e6c5717281f1f253973cf9a533f70997f6abc47bf2a267a86b79ef648f8", func := "loop.example/spandrel/laws.FnFar", spec := "fnFar", apart := false, narrowed := true }
def FnFarUptoSaid : Prop := fnFarUptoRow.holds Try.pinned (OpenSpec.upto fnFarSpec)

/-- 'laws.FnFarThree', WHERE WHAT IT READS IS OF BULK AT MOST 1048576: true; the input reads as it did. -/
def fnFarThreeUptoRow : OpenClaim := { program := "ytlpclfeppddlfaa", sum := "83987e6c5717281f1f253973cf9a533f70997f6abc47bf2a267a86b79ef648f8", func := "loop.example/spandrel/laws.FnFarThree", spec := "fnFarThree", apart := false, narrowed := true }
def FnFarThreeUptoSaid : Prop := fnFarThreeUptoRow.holds Try.pinned (OpenSpec.upto fnFarThreeSpec)

/-- 'laws.FnFarOne', WHERE WHAT IT READS IS OF BULK AT MOST 1048576: true; the input reads as it did. -/
def fnFarOneUptoRow : OpenClaim := { program := "ytlpclfeppddlfaa", sum := "83987e6c5717281f1f253973cf9a533f70997f6abc47bf2a267a86b79ef648f8", func := "loop.example/spandrel/laws.FnFarOne", spec := "fnFarOne", apart := false, narrowed := true }
def FnFarOneUptoSaid : Prop := fnFarOneUptoRow.holds Try.pinned (OpenSpec.upto fnFarOneSpec)

/-- 'laws.FnExactFar', WHERE WHAT IT READS IS OF BULK AT MOST 1048576: true; the input reads as it did. -/
def fnExactFarUptoRow : OpenClaim := { program := "ytlpclfeppddlfaa", sum := "83987e6c5717281f1f253973cf9a533f70997f6abc47bf2a267a86b79ef648f8", func := "loop.example/spandrel/laws.FnExactFar", spec := "fnExactFar", apart := false, narrowed := true }
def FnExactFarUptoSaid : Prop := fnExactFarUptoRow.holds Try.pinned (OpenSpec.upto fnExactFarSpec)

end Rows
end Go.Proofs.Ytlpclfeppddlfaa
