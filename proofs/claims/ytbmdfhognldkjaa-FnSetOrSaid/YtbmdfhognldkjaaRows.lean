/-
  No cell of these rows narrows 'for every input' (looked for: loops, veiled, ifaces, maps, wideKeys, modest, calm, conditions, laid).
  DERIVED. THE GIVEN ROWS OF THIS SEAT. 11 by the template 'for every input the law returns true; each argument reads behind the call as it read before'; 0 by the template 'total and deterministic' (their statements: YtbmdfhognldkjaaTotals.lean).
  GIVEN WITH THE SEED: the statements are not yours to turn. If you find one false, say at which input.
  Laid BY PROGRAM, IN A SANDBOX (cutbox-rows.mjs): the forced cells as the released guide's own fill.sh prints them over the translation b1fec3e0dc7ad24e… (all of the seat's roots in one cut). By AI agents, Wed Nov 11 2026. No macro, syntax, notation, axiom, sorry.
-/
import Derived.Test.YtbmdfhognldkjaaChecked
import GoSem.Claim
import GoSem.ClaimJoined
import GoSem.ClaimMapViews
import Derived.JoinedTies
import Derived.KernelRfl
namespace Go.Proofs.Ytbmdfhognldkjaa
/- THE CELL 'sum', in the pinned program and in every row, IS THE sha256 OF THE DUMP (.gsa) THAT YtbmdfhognldkjaaProg.lean LOADS. Nothing in Lean hashes anything: it is a label: what it is worth is what the hold of that sum in a sandbox is worth. -/
noncomputable def Try.pinned : Pinned := { name := "ytbmdfhognldkjaa", sum := "b1fec3e0dc7ad24e395484a618274fde7ac235b840157de8415ea684573501de", checked := Try.checked }
namespace Rows
def none {H : Type} : Left H := { results := [], args := [] }

/-- 'laws.FnSetAnd': WHATEVER THE INPUT: true; the input reads as it did. -/
def fnSetAndSpec : ChangeSpec := { name := "fnSetAnd", fn := fun _ => fun
  | [d] => { results := [.lit (.bool true)], args := [d] }
  | _ => none }
def fnSetAndRow : OpenClaim := { program := "ytbmdfhognldkjaa", sum := "b1fec3e0dc7ad24e395484a618274fde7ac235b840157de8415ea684573501de", func := "loop.example/spandrel/laws.FnSetAnd", spec := "fnSetAnd", unfollowed := true, recurses := true, apart := false }
def FnSetAndSaid : Prop := fnSetAndRow.holds Try.pinned (OpenSpec.ofChange fnSetAndSpec)

/-- ITS FALSE NEIGHBOUR: 'it returns false'. Refute it at one input. -/
def fnSetAndWrong : ChangeSpec := { name := "fnSetAnd", fn := fun _ => fun
  | [d] => { results := [.lit (.bool false)], args := [d] }
  | _ => none }
def FnSetAndWrongFalsely : Prop := fnSetAndRow.holds Try.pinned (OpenSpec.ofChange fnSetAndWrong)

/-- 'laws.FnSetOr': WHATEVER THE INPUT: true; the input reads as it did. -/
def fnSetOrSpec : ChangeSpec := { name := "fnSetOr", fn := fun _ => fun
  | [d] => { results := [.lit (.bool true)], args := [d] }
  | _ => none }
def fnSetOrRow : OpenClaim := { program := "ytbmdfhognldkjaa", sum := "b1fec3e0dc7ad24e395484a618274fde7ac235b840157de8415ea684573501de", func := "loop.example/spandrel/laws.FnSetOr", spec := "fnSetOr", unfollowed := true, recurses := true, apart := false }
def FnSetOrSaid : Prop := fnSetOrRow.holds Try.pinned (OpenSpec.ofChange fnSetOrSpec)

/-- ITS FALSE NEIGHBOUR: 'it returns false'. Refute it at one input. -/
def fnSetOrWrong : ChangeSpec := { name := "fnSetOr", fn := fun _ => fun
  | [d] => { results := [.lit (.bool false)], args := [d] }
  | _ => none }
def FnSetOrWrongFalsely : Prop := fnSetOrRow.holds Try.pinned (OpenSpec.ofChange fnSetOrWrong)

/-- 'laws.FnSetLess': WHATEVER THE INPUT: true; the input reads as it did. -/
def fnSetLessSpec : ChangeSpec := { name := "fnSetLess", fn := fun _ => fun
  | [d] => { results := [.lit (.bool true)], args := [d] }
  | _ => none }
def fnSetLessRow : OpenClaim := { program := "ytbmdfhognldkjaa", sum := "b1fec3e0dc7ad24e395484a618274fde7ac235b840157de8415ea684573501de", func := "loop.example/spandrel/laws.FnSetLess", spec := "fnSetLess", unfollowed := true, recurses := true, apart := false }
def FnSetLessSaid : Prop := fnSetLessRow.holds Try.pinned (OpenSpec.ofChange fnSetLessSpec)

/-- ITS FALSE NEIGHBOUR: 'it returns false'. Refute it at one input. -/
def fnSetLessWrong : ChangeSpec := { name := "fnSetLess", fn := fun _ => fun
  | [d] => { results := [.lit (.bool false)], args := [d] }
  | _ => none }
def FnSetLessWrongFalsely : Prop := fnSetLessRow.holds Try.pinned (OpenSpec.ofChange fnSetLessWrong)

/-- 'laws.FnSetHas': WHATEVER THE INPUT: true; the input reads as it did. -/
def fnSetHasSpec : ChangeSpec := { name := "fnSetHas", fn := fun _ => fun
  | [d] => { results := [.lit (.bool true)], args := [d] }
  | _ => none }
def fnSetHasRow : OpenClaim := { program := "ytbmdfhognldkjaa", sum := "b1fec3e0dc7ad24e395484a618274fde7ac235b840157de8415ea684573501de", func := "loop.example/spandrel/laws.FnSetHas", spec := "fnSetHas", unfollowed := true, recurses := true, apart := false }
def FnSetHasSaid : Prop := fnSetHasRow.holds Try.pinned (OpenSpec.ofChange fnSetHasSpec)

/-- ITS FALSE NEIGHBOUR: 'it returns false'. Refute it at one input. -/
def fnSetHasWrong : ChangeSpec := { name := "fnSetHas", fn := fun _ => fun
  | [d] => { results := [.lit (.bool false)], args := [d] }
  | _ => none }
def FnSetHasWrongFalsely : Prop := fnSetHasRow.holds Try.pinned (OpenSpec.ofChange fnSetHasWrong)

/-- 'laws.FnSetThree': WHATEVER THE INPUT: true; the input reads as it did. -/
def fnSetThreeSpec : ChangeSpec := { name := "fnSetThree", fn := fun _ => fun
  | [d1, d2] => { results := [.lit (.bool true)], args := [d1, d2] }
  | _ => none }
def fnSetThreeRow : OpenClaim := { program := "ytbmdfhognldkjaa", sum := "b1fec3e0dc7ad24e395484a618274fde7ac235b840157de8415ea684573501de", func := "loop.example/spandrel/laws.FnSetThree", spec := "fnSetThree", unfollowed := true, recurses := true, apart := false }
def FnSetThreeSaid : Prop := fnSetThreeRow.holds Try.pinned (OpenSpec.ofChange fnSetThreeSpec)

/-- ITS FALSE NEIGHBOUR: 'it returns false'. Refute it at one input. -/
def fnSetThreeWrong : ChangeSpec := { name := "fnSetThree", fn := fun _ => fun
  | [d1, d2] => { results := [.lit (.bool false)], args := [d1, d2] }
  | _ => none }
def FnSetThreeWrongFalsely : Prop := fnSetThreeRow.holds Try.pinned (OpenSpec.ofChange fnSetThreeWrong)

/-- 'laws.FnSetNone': WHATEVER THE INPUT: true; the input reads as it did. -/
def fnSetNoneSpec : ChangeSpec := { name := "fnSetNone", fn := fun _ => fun
  | [d] => { results := [.lit (.bool true)], args := [d] }
  | _ => none }
def fnSetNoneRow : OpenClaim := { program := "ytbmdfhognldkjaa", sum := "b1fec3e0dc7ad24e395484a618274fde7ac235b840157de8415ea684573501de", func := "loop.example/spandrel/laws.FnSetNone", spec := "fnSetNone", unfollowed := true, recurses := true, apart := false }
def FnSetNoneSaid : Prop := fnSetNoneRow.holds Try.pinned (OpenSpec.ofChange fnSetNoneSpec)

/-- ITS FALSE NEIGHBOUR: 'it returns false'. Refute it at one input. -/
def fnSetNoneWrong : ChangeSpec := { name := "fnSetNone", fn := fun _ => fun
  | [d] => { results := [.lit (.bool false)], args := [d] }
  | _ => none }
def FnSetNoneWrongFalsely : Prop := fnSetNoneRow.holds Try.pinned (OpenSpec.ofChange fnSetNoneWrong)

/-- 'laws.FnExactSetOk': WHATEVER THE INPUT: true; the input reads as it did. -/
def fnExactSetOkSpec : ChangeSpec := { name := "fnExactSetOk", fn := fun _ => fun
  | [d] => { results := [.lit (.bool true)], args := [d] }
  | _ => none }
def fnExactSetOkRow : OpenClaim := { program := "ytbmdfhognldkjaa", sum := "b1fec3e0dc7ad24e395484a618274fde7ac235b840157de8415ea684573501de", func := "loop.example/spandrel/laws.FnExactSetOk", spec := "fnExactSetOk", apart := false }
def FnExactSetOkSaid : Prop := fnExactSetOkRow.holds Try.pinned (OpenSpec.ofChange fnExactSetOkSpec)

/-- ITS FALSE NEIGHBOUR: 'it returns false'. Refute it at one input. -/
def fnExactSetOkWrong : ChangeSpec := { name := "fnExactSetOk", fn := fun _ => fun
  | [d] => { results := [.lit (.bool false)], args := [d] }
  | _ => none }
def FnExactSetOkWrongFalsely : Prop := fnExactSetOkRow.holds Try.pinned (OpenSpec.ofChange fnExactSetOkWrong)

/-- 'laws.FnExactSetAnd': WHATEVER THE INPUT: true; the input reads as it did. -/
def fnExactSetAndSpec : ChangeSpec := { name := "fnExactSetAnd", fn := fun _ => fun
  | [d1, d2] => { results := [.lit (.bool true)], args := [d1, d2] }
  | _ => none }
def fnExactSetAndRow : OpenClaim := { program := "ytbmdfhognldkjaa", sum := "b1fec3e0dc7ad24e395484a618274fde7ac235b840157de8415ea684573501de", func := "loop.example/spandrel/laws.FnExactSetAnd", spec := "fnExactSetAnd", unfollowed := true, recurses := true, apart := false }
def FnExactSetAndSaid : Prop := fnExactSetAndRow.holds Try.pinned (OpenSpec.ofChange fnExactSetAndSpec)

/-- ITS FALSE NEIGHBOUR: 'it returns false'. Refute it at one input. -/
def fnExactSetAndWrong : ChangeSpec := { name := "fnExactSetAnd", fn := fun _ => fun
  | [d1, d2] => { results := [.lit (.bool false)], args := [d1, d2] }
  | _ => none }
def FnExactSetAndWrongFalsely : Prop := fnExactSetAndRow.holds Try.pinned (OpenSpec.ofChange fnExactSetAndWrong)

/-- 'laws.FnExactSetOr': WHATEVER THE INPUT: true; the input reads as it did. -/
def fnExactSetOrSpec : ChangeSpec := { name := "fnExactSetOr", fn := fun _ => fun
  | [d1, d2] => { results := [.lit (.bool true)], args := [d1, d2] }
  | _ => none }
def fnExactSetOrRow : OpenClaim := { program := "ytbmdfhognldkjaa", sum := "b1fec3e0dc7ad24e395484a618274fde7ac235b840157de8415ea684573501de", func := "loop.example/spandrel/laws.FnExactSetOr", spec := "fnExactSetOr", unfollowed := true, recurses := true, apart := false }
def FnExactSetOrSaid : Prop := fnExactSetOrRow.holds Try.pinned (OpenSpec.ofChange fnExactSetOrSpec)

/-- ITS FALSE NEIGHBOUR: 'it returns false'. Refute it at one input. -/
def fnExactSetOrWrong : ChangeSpec := { name := "fnExactSetOr", fn := fun _ => fun
  | [d1, d2] => { results := [.lit (.bool false)], args := [d1, d2] }
  | _ => none }
def FnExactSetOrWrongFalsely : Prop := fnExactSetOrRow.holds Try.pinned (OpenSpec.ofChange fnExactSetOrWrong)

/-- 'laws.FnExactSetLess': WHATEVER THE INPUT: true; the input reads as it did. -/
def fnExactSetLessSpec : ChangeSpec := { name := "fnExactSetLess", fn := fun _ => fun
  | [d1, d2] => { results := [.lit (.bool true)], args := [d1, d2] }
  | _ => none }
def fnExactSetLessRow : OpenClaim := { program := "ytbmdfhognldkjaa", sum := "b1fec3e0dc7ad24e395484a618274fde7ac235b840157de8415ea684573501de", func := "loop.example/spandrel/laws.FnExactSetLess", spec := "fnExactSetLess", unfollowed := true, recurses := true, apart := false }
def FnExactSetLessSaid : Prop := fnExactSetLessRow.holds Try.pinned (OpenSpec.ofChange fnExactSetLessSpec)

/-- ITS FALSE NEIGHBOUR: 'it returns false'. Refute it at one input. -/
def fnExactSetLessWrong : ChangeSpec := { name := "fnExactSetLess", fn := fun _ => fun
  | [d1, d2] => { results := [.lit (.bool false)], args := [d1, d2] }
  | _ => none }
def FnExactSetLessWrongFalsely : Prop := fnExactSetLessRow.holds Try.pinned (OpenSpec.ofChange fnExactSetLessWrong)

/-- 'laws.FnExactSetHas': WHATEVER THE INPUT: true; the input reads as it did. -/
def fnExactSetHasSpec : ChangeSpec := { name := "fnExactSetHas", fn := fun _ => fun
  | [d1, d2] => { results := [.lit (.bool true)], args := [d1, d2] }
  | _ => none }
def fnExactSetHasRow : OpenClaim := { program := "ytbmdfhognldkjaa", sum := "b1fec3e0dc7ad24e395484a618274fde7ac235b840157de8415ea684573501de", func := "loop.example/spandrel/laws.FnExactSetHas", spec := "fnExactSetHas", apart := false }
def FnExactSetHasSaid : Prop := fnExactSetHasRow.holds Try.pinned (OpenSpec.ofChange fnExactSetHasSpec)

/-- ITS FALSE NEIGHBOUR: 'it returns false'. Refute it at one input. -/
def fnExactSetHasWrong : ChangeSpec := { name := "fnExactSetHas", fn := fun _ => fun
  | [d1, d2] => { results := [.lit (.bool false)], args := [d1, d2] }
  | _ => none }
def FnExactSetHasWrongFalsely : Prop := fnExactSetHasRow.holds Try.pinned (OpenSpec.ofChange fnExactSetHasWrong)

/- THE SECOND FORM. 'bulk': how many values and letters a reading holds, each counted each time it is reached (what is shared counts as often as it is met; a slice's spare places count too). A statement '..UptoSaid' is the law's where the arguments, and the package variables that the reading takes, are together of bulk at most 1048576: NARROWER than '..Said'. Prove '..Said' where nothing that the law and all that it calls make is longer than what came in: it says more and counts as full. Else prove '..UptoSaid'. A law counts once. -/
mutual
def uptoBulk {H : Type} : DataW H → Nat
  | .lit (.string bytes) => bytes.length + 1
  | .lit _ => 1
  | .nil => 1
  | .ptr d => uptoBulk d + 1
  | .slice elems spare => uptoBulkAll elems + uptoBulkAll spare + 1
  | .agg parts => uptoBulkAll parts + 1
  | .iface _ d => uptoBulk d + 1
  | .map entries => uptoBulkEntries entries + 1
  | .held _ => 1
def uptoBulkAll {H : Type} : List (DataW H) → Nat
  | [] => 0
  | d :: r => uptoBulk d + uptoBulkAll r
def uptoBulkEntries {H : Type} : List (Lit × DataW H) → Nat
  | [] => 0
  | x :: r => uptoBulkEntry x + uptoBulkEntries r
def uptoBulkEntry {H : Type} : Lit × DataW H → Nat
  | (.string bytes, d) => bytes.length + uptoBulk d + 1
  | (_, d) => uptoBulk d + 1
 end
def uptoSmall : (H : Type) → List (DataW H) → Bool := fun _ ds => decide (uptoBulkAll ds ≤ 1048576)
def OpenSpec.upto (s : _root_.Go.ChangeSpec) : _root_.Go.OpenSpec := { _root_.Go.OpenSpec.ofChange s with cond := some uptoSmall }

/-- 'laws.FnSetAnd', WHERE WHAT IT READS IS OF BULK AT MOST 1048576: true; the input reads as it did. -/
def fnSetAndUptoRow : OpenClaim := { program := "ytbmdfhognldkjaa", sum := "b1fec3e0dc7ad24e395484a618274fde7ac235b840157de8415ea684573501de", func := "loop.example/spandrel/laws.FnSetAnd", spec := "fnSetAnd", unfollowed := true, recurses := true, apart := false, narrowed := true }
def FnSetAndUptoSaid : Prop := fnSetAndUptoRow.holds Try.pinned (OpenSpec.upto fnSetAndSpec)

/-- 'laws.FnSetOr', WHERE WHAT IT READS IS OF BULK AT MOST 1048576: true; the input reads as it did. -/
def fnSetOrUptoRow : OpenClaim := { program := "ytbmdfhognldkjaa", sum := "b1fec3e0dc7ad24e395484a618274fde7ac235b840157de8415ea684573501de", func := "loop.example/spandrel/laws.FnSetOr", spec := "fnSetOr", unfollowed := true, recurses := true, apart := false, narrowed := true }
def FnSetOrUptoSaid : Prop := fnSetOrUptoRow.holds Try.pinned (OpenSpec.upto fnSetOrSpec)

/-- 'laws.FnSetLess', WHERE WHAT IT READS IS OF BULK AT MOST 1048576: true; the input reads as it did. -/
def fnSetLessUptoRow : OpenClaim := { program := "ytbmdfhognldkjaa", sum := "b1fec3e0dc7ad24e395484a618274fde7ac235b840157de8415ea684573501de", func := "loop.example/spandrel/laws.FnSetLess", spec := "fnSetLess", unfollowed := true, recurses := true, apart := false, narrowed := true }
def FnSetLessUptoSaid : Prop := fnSetLessUptoRow.holds Try.pinned (OpenSpec.upto fnSetLessSpec)

/-- 'laws.FnSetHas', WHERE WHAT IT READS IS OF BULK AT MOST 1048576: true; the input reads as it did. -/
def fnSetHasUptoRow : OpenClaim := { program := "ytbmdfhognldkjaa", sum := "b1fec3e0dc7ad24e395484a618274fde7ac235b840157de8415ea684573501de", func := "loop.example/spandrel/laws.FnSetHas", spec := "fnSetHas", unfollowed := true, recurses := true, apart := false, narrowed := true }
def FnSetHasUptoSaid : Prop := fnSetHasUptoRow.holds Try.pinned (OpenSpec.upto fnSetHasSpec)

/-- 'laws.FnSetThree', WHERE WHAT IT READS IS OF BULK AT MOST 1048576: true; the input reads as it did. -/
def fnSetThreeUptoRow : OpenClaim := { program := "ytbmdfhognldkjaa", sum := "b1fec3e0dc7ad24e395484a618274fde7ac235b840157de8415ea684573501de", func := "loop.example/spandrel/laws.FnSetThree", spec := "fnSetThree", unfollowed := true, recurses := true, apart := false, narrowed := true }
def FnSetThreeUptoSaid : Prop := fnSetThreeUptoRow.holds Try.pinned (OpenSpec.upto fnSetThreeSpec)

/-- 'laws.FnSetNone', WHERE WHAT IT READS IS OF BULK AT MOST 1048576: true; the input reads as it did. -/
def fnSetNoneUptoRow : OpenClaim := { program := "ytbmdfhognldkjaa", sum := "b1fec3e0dc7ad24e395484a618274fde7ac235b840157de8415ea684573501de", func := "loop.example/spandrel/laws.FnSetNone", spec := "fnSetNone", unfollowed := true, recurses := true, apart := false, narrowed := true }
def FnSetNoneUptoSaid : Prop := fnSetNoneUptoRow.holds Try.pinned (OpenSpec.upto fnSetNoneSpec)

/-- 'laws.FnExactSetOk', WHERE WHAT IT READS IS OF BULK AT MOST 1048576: true; the input reads as it did. -/
def fnExactSetOkUptoRow : OpenClaim := { program := "ytbmdfhognldkjaa", sum := "b1fec3e0dc7ad24e395484a618274fde7ac235b840157de8415ea684573501de", func := "loop.example/spandrel/laws.FnExactSetOk", spec := "fnExactSetOk", apart := false, narrowed := true }
def FnExactSetOkUptoSaid : Prop := fnExactSetOkUptoRow.holds Try.pinned (OpenSpec.upto fnExactSetOkSpec)

/-- 'laws.FnExactSetAnd', WHERE WHAT IT READS IS OF BULK AT MOST 1048576: true; the input reads as it did. -/
def fnExactSetAndUptoRow : OpenClaim := { program := "ytbmdfhognldkjaa", sum := "b1fec3e0dc7ad24e395484a618274fde7ac235b840157de8415ea684573501de", func := "loop.example/spandrel/laws.FnExactSetAnd", spec := "fnExactSetAnd", unfollowed := true, recurses := true, apart := false, narrowed := true }
def FnExactSetAndUptoSaid : Prop := fnExactSetAndUptoRow.holds Try.pinned (OpenSpec.upto fnExactSetAndSpec)

/-- 'laws.FnExactSetOr', WHERE WHAT IT READS IS OF BULK AT MOST 1048576: true; the input reads as it did. -/
def fnExactSetOrUptoRow : OpenClaim := { program := "ytbmdfhognldkjaa", sum := "b1fec3e0dc7ad24e395484a618274fde7ac235b840157de8415ea684573501de", func := "loop.example/spandrel/laws.FnExactSetOr", spec := "fnExactSetOr", unfollowed := true, recurses := true, apart := false, narrowed := true }
def FnExactSetOrUptoSaid : Prop := fnExactSetOrUptoRow.holds Try.pinned (OpenSpec.upto fnExactSetOrSpec)

/-- 'laws.FnExactSetLess', WHERE WHAT IT READS IS OF BULK AT MOST 1048576: true; the input reads as it did. -/
def fnExactSetLessUptoRow : OpenClaim := { program := "ytbmdfhognldkjaa", sum := "b1fec3e0dc7ad24e395484a618274fde7ac235b840157de8415ea684573501de", func := "loop.example/spandrel/laws.FnExactSetLess", spec := "fnExactSetLess", unfollowed := true, recurses := true, apart := false, narrowed := true }
def FnExactSetLessUptoSaid : Prop := fnExactSetLessUptoRow.holds Try.pinned (OpenSpec.upto fnExactSetLessSpec)

/-- 'laws.FnExactSetHas', WHERE WHAT IT READS IS OF BULK AT MOST 1048576: true; the input reads as it did. -/
def fnExactSetHasUptoRow : OpenClaim := { program := "ytbmdfhognldkjaa", sum := "b1fec3e0dc7ad24e395484a618274fde7ac235b840157de8415ea684573501de", func := "loop.example/spandrel/laws.FnExactSetHas", spec := "fnExactSetHas", apart := false, narrowed := true }
def FnExactSetHasUptoSaid : Prop := fnExactSetHasUptoRow.holds Try.pinned (OpenSpec.upto fnExactSetHasSpec)

end Rows
end Go.Proofs.Ytbmdfhognldkjaa
