/-
  No cell of these rows narrows 'for every input' (looked for: loops, veiled, ifaces, maps, wideKeys, modest, calm, conditions, laid).
  DERIVED. THE GIVEN ROWS OF THIS SEAT. 7 by the template 'for every input the law returns true; each argument reads behind the call as it read before'; 0 by the template 'total and deterministic' (their statements: YtinniomeblkmeaaTotals.lean).
  GIVEN WITH THE SEED: the statements are not yours to turn. If you find one false, say at which input.
  Laid BY PROGRAM, IN A SANDBOX (cutbox-rows.mjs): the forced cells as the released guide's own fill.sh prints them over the translation 3f7cddbbbbd14d76… (all of the seat's roots in one cut). By AI agents, Wed Nov 11 2026. No macro, syntax, notation, axiom, sorry.
-/
import Derived.Test.YtinniomeblkmeaaChecked
import GoSem.Claim
import GoSem.ClaimJoined
import GoSem.ClaimMapViews
import Derived.JoinedTies
import Derived.KernelRfl
namespace Go.Proofs.Ytinniomeblkmeaa
/- THE CELL 'sum', in the pinned program and in every row, IS THE sha256 OF THE DUMP (.gsa) THAT YtinniomeblkmeaaProg.lean LOADS. Nothing in Lean hashes anything: it is a label: what it is worth is what the hold of that sum in a sandbox is worth. -/
noncomputable def Try.pinned : Pinned := { name := "ytinniomeblkmeaa", sum := "3f7cddbbbbd14d76aea5610a64b4c5eb80e7c1537ce920ad5e480adea206e0d7", checked := Try.checked }
namespace Rows
def none {H : Type} : Left H := { results := [], args := [] }

/-- 'laws.FnDocText': WHATEVER THE INPUT: true; the input reads as it did. -/
def fnDocTextSpec : ChangeSpec := { name := "fnDocText", fn := fun _ => fun
  | [d] => { results := [.lit (.bool true)], args := [d] }
  | _ => none }
def fnDocTextRow : OpenClaim := { program := "ytinniomeblkmeaa", sum := "3f7cddbbbbd14d76aea5610a64b4c5eb80e7c1537ce920ad5e480adea206e0d7", func := "loop.example/spandrel/laws.FnDocText", spec := "fnDocText", apart := false }
def FnDocTextSaid : Prop := fnDocTextRow.holds Try.pinned (OpenSpec.ofChange fnDocTextSpec)

/-- ITS FALSE NEIGHBOUR: 'it returns false'. Refute it at one input. -/
def fnDocTextWrong : ChangeSpec := { name := "fnDocText", fn := fun _ => fun
  | [d] => { results := [.lit (.bool false)], args := [d] }
  | _ => none }
def FnDocTextWrongFalsely : Prop := fnDocTextRow.holds Try.pinned (OpenSpec.ofChange fnDocTextWrong)

/-- 'laws.FnDocOk': WHATEVER THE INPUT: true; the input reads as it did. -/
def fnDocOkSpec : ChangeSpec := { name := "fnDocOk", fn := fun _ => fun
  | [d] => { results := [.lit (.bool true)], args := [d] }
  | _ => none }
def fnDocOkRow : OpenClaim := { program := "ytinniomeblkmeaa", sum := "3f7cddbbbbd14d76aea5610a64b4c5eb80e7c1537ce920ad5e480adea206e0d7", func := "loop.example/spandrel/laws.FnDocOk", spec := "fnDocOk", unfollowed := true, recurses := true, apart := false }
def FnDocOkSaid : Prop := fnDocOkRow.holds Try.pinned (OpenSpec.ofChange fnDocOkSpec)

/-- ITS FALSE NEIGHBOUR: 'it returns false'. Refute it at one input. -/
def fnDocOkWrong : ChangeSpec := { name := "fnDocOk", fn := fun _ => fun
  | [d] => { results := [.lit (.bool false)], args := [d] }
  | _ => none }
def FnDocOkWrongFalsely : Prop := fnDocOkRow.holds Try.pinned (OpenSpec.ofChange fnDocOkWrong)

/-- 'laws.FnName': WHATEVER THE INPUT: true; the input reads as it did. -/
def fnNameSpec : ChangeSpec := { name := "fnName", fn := fun _ => fun
  | [d] => { results := [.lit (.bool true)], args := [d] }
  | _ => none }
def fnNameRow : OpenClaim := { program := "ytinniomeblkmeaa", sum := "3f7cddbbbbd14d76aea5610a64b4c5eb80e7c1537ce920ad5e480adea206e0d7", func := "loop.example/spandrel/laws.FnName", spec := "fnName", unfollowed := true, recurses := true, apart := false }
def FnNameSaid : Prop := fnNameRow.holds Try.pinned (OpenSpec.ofChange fnNameSpec)

/-- ITS FALSE NEIGHBOUR: 'it returns false'. Refute it at one input. -/
def fnNameWrong : ChangeSpec := { name := "fnName", fn := fun _ => fun
  | [d] => { results := [.lit (.bool false)], args := [d] }
  | _ => none }
def FnNameWrongFalsely : Prop := fnNameRow.holds Try.pinned (OpenSpec.ofChange fnNameWrong)

/-- 'laws.FnExactFieldsOk': WHATEVER THE INPUT: true; the input reads as it did. -/
def fnExactFieldsOkSpec : ChangeSpec := { name := "fnExactFieldsOk", fn := fun _ => fun
  | [d] => { results := [.lit (.bool true)], args := [d] }
  | _ => none }
def fnExactFieldsOkRow : OpenClaim := { program := "ytinniomeblkmeaa", sum := "3f7cddbbbbd14d76aea5610a64b4c5eb80e7c1537ce920ad5e480adea206e0d7", func := "loop.example/spandrel/laws.FnExactFieldsOk", spec := "fnExactFieldsOk", apart := false }
def FnExactFieldsOkSaid : Prop := fnExactFieldsOkRow.holds Try.pinned (OpenSpec.ofChange fnExactFieldsOkSpec)

/-- ITS FALSE NEIGHBOUR: 'it returns false'. Refute it at one input. -/
def fnExactFieldsOkWrong : ChangeSpec := { name := "fnExactFieldsOk", fn := fun _ => fun
  | [d] => { results := [.lit (.bool false)], args := [d] }
  | _ => none }
def FnExactFieldsOkWrongFalsely : Prop := fnExactFieldsOkRow.holds Try.pinned (OpenSpec.ofChange fnExactFieldsOkWrong)

/-- 'laws.FnExactDocOk': WHATEVER THE INPUT: true; the input reads as it did. -/
def fnExactDocOkSpec : ChangeSpec := { name := "fnExactDocOk", fn := fun _ => fun
  | [d1, d2] => { results := [.lit (.bool true)], args := [d1, d2] }
  | _ => none }
def fnExactDocOkRow : OpenClaim := { program := "ytinniomeblkmeaa", sum := "3f7cddbbbbd14d76aea5610a64b4c5eb80e7c1537ce920ad5e480adea206e0d7", func := "loop.example/spandrel/laws.FnExactDocOk", spec := "fnExactDocOk", unfollowed := true, recurses := true, apart := false }
def FnExactDocOkSaid : Prop := fnExactDocOkRow.holds Try.pinned (OpenSpec.ofChange fnExactDocOkSpec)

/-- ITS FALSE NEIGHBOUR: 'it returns false'. Refute it at one input. -/
def fnExactDocOkWrong : ChangeSpec := { name := "fnExactDocOk", fn := fun _ => fun
  | [d1, d2] => { results := [.lit (.bool false)], args := [d1, d2] }
  | _ => none }
def FnExactDocOkWrongFalsely : Prop := fnExactDocOkRow.holds Try.pinned (OpenSpec.ofChange fnExactDocOkWrong)

/-- 'laws.FnExactDocText': WHATEVER THE INPUT: true; the input reads as it did. -/
def fnExactDocTextSpec : ChangeSpec := { name := "fnExactDocText", fn := fun _ => fun
  | [d1, d2] => { results := [.lit (.bool true)], args := [d1, d2] }
  | _ => none }
def fnExactDocTextRow : OpenClaim := { program := "ytinniomeblkmeaa", sum := "3f7cddbbbbd14d76aea5610a64b4c5eb80e7c1537ce920ad5e480adea206e0d7", func := "loop.example/spandrel/laws.FnExactDocText", spec := "fnExactDocText", apart := false }
def FnExactDocTextSaid : Prop := fnExactDocTextRow.holds Try.pinned (OpenSpec.ofChange fnExactDocTextSpec)

/-- ITS FALSE NEIGHBOUR: 'it returns false'. Refute it at one input. -/
def fnExactDocTextWrong : ChangeSpec := { name := "fnExactDocText", fn := fun _ => fun
  | [d1, d2] => { results := [.lit (.bool false)], args := [d1, d2] }
  | _ => none }
def FnExactDocTextWrongFalsely : Prop := fnExactDocTextRow.holds Try.pinned (OpenSpec.ofChange fnExactDocTextWrong)

/-- 'laws.FnExactDocPut': WHATEVER THE INPUT: true; the input reads as it did. -/
def fnExactDocPutSpec : ChangeSpec := { name := "fnExactDocPut", fn := fun _ => fun
  | [d] => { results := [.lit (.bool true)], args := [d] }
  | _ => none }
def fnExactDocPutRow : OpenClaim := { program := "ytinniomeblkmeaa", sum := "3f7cddbbbbd14d76aea5610a64b4c5eb80e7c1537ce920ad5e480adea206e0d7", func := "loop.example/spandrel/laws.FnExactDocPut", spec := "fnExactDocPut", inPlace := ["internal/abi.NoEscape"], apart := false }
def FnExactDocPutSaid : Prop := fnExactDocPutRow.holds Try.pinned (OpenSpec.ofChange fnExactDocPutSpec)

/-- ITS FALSE NEIGHBOUR: 'it returns false'. Refute it at one input. -/
def fnExactDocPutWrong : ChangeSpec := { name := "fnExactDocPut", fn := fun _ => fun
  | [d] => { results := [.lit (.bool false)], args := [d] }
  | _ => none }
def FnExactDocPutWrongFalsely : Prop := fnExactDocPutRow.holds Try.pinned (OpenSpec.ofChange fnExactDocPutWrong)

/- THE SECOND FORM. 'bulk': how many values and letters a reading holds, each counted each time it is reached (what is shared counts as often as it is met; a slice's spare places count too). A statement '..UptoSaid' is the law's where the arguments, and the package variables that the reading takes, are together of bulk at most 1048576: NARROWER than '..Said'. Prove '..Said' where nothing that the law and all that it calls make is longer than what came in: it says more and counts as full. Else prove '..UptoSaid'. A law counts once. -/
mutual
def uptoBulk {H : Type} : DataW H → Nat
  | .lit (.string bytes) => bytes.length + 1
  | .lit _ => 1
  | .nil => 1
  | .ptr d => uptoBulk d + 1
  | .slice elems spare => uptoBulkAll elems + uptoBulkAll spare + 1
  | .agg parts => uptoBulkAll parts + 1
  | .iface _ d => uptoBulk d + 1
  | .map entries => uptoBulkEntries entries + 1
  | .held _ => 1
def uptoBulkAll {H : Type} : List (DataW H) → Nat
  | [] => 0
  | d :: r => uptoBulk d + uptoBulkAll r
def uptoBulkEntries {H : Type} : List (Lit × DataW H) → Nat
  | [] => 0
  | x :: r => uptoBulkEntry x + uptoBulkEntries r
def uptoBulkEntry {H : Type} : Lit × DataW H → Nat
  | (.string bytes, d) => bytes.length + uptoBulk d + 1
  | (_, d) => uptoBulk d + 1
 end
def uptoSmall : (H : Type) → List (DataW H) → Bool := fun _ ds => decide (uptoBulkAll ds ≤ 1048576)
def OpenSpec.upto (s : _root_.Go.ChangeSpec) : _root_.Go.OpenSpec := { _root_.Go.OpenSpec.ofChange s with cond := some uptoSmall }

/-- 'laws.FnDocText', WHERE WHAT IT READS IS OF BULK AT MOST 1048576: true; the input reads as it did. -/
def fnDocTextUptoRow : OpenClaim := { program := "ytinniomeblkmeaa", sum := "3f7cddbbbbd14d76aea5610a64b4c5eb80e7c1537ce920ad5e480adea206e0d7", func := "loop.example/spandrel/laws.FnDocText", spec := "fnDocText", apart := false, narrowed := true }
def FnDocTextUptoSaid : Prop := fnDocTextUptoRow.holds Try.pinned (OpenSpec.upto fnDocTextSpec)

/-- 'laws.FnDocOk', WHERE WHAT IT READS IS OF BULK AT MOST 1048576: true; the input reads as it did. -/
def fnDocOkUptoRow : OpenClaim := { program := "ytinniomeblkmeaa", sum := "3f7cddbbbbd14d76aea5610a64b4c5eb80e7c1537ce920ad5e480adea206e0d7", func := "loop.example/spandrel/laws.FnDocOk", spec := "fnDocOk", unfollowed := true, recurses := true, apart := false, narrowed := true }
def FnDocOkUptoSaid : Prop := fnDocOkUptoRow.holds Try.pinned (OpenSpec.upto fnDocOkSpec)

/-- 'laws.FnName', WHERE WHAT IT READS IS OF BULK AT MOST 1048576: true; the input reads as it did. -/
def fnNameUptoRow : OpenClaim := { program := "ytinniomeblkmeaa", sum := "3f7cddbbbbd14d76aea5610a64b4c5eb80e7c1537ce920ad5e480adea206e0d7", func := "loop.example/spandrel/laws.FnName", spec := "fnName", unfollowed := true, recurses := true, apart := false, narrowed := true }
def FnNameUptoSaid : Prop := fnNameUptoRow.holds Try.pinned (OpenSpec.upto fnNameSpec)

/-- 'laws.FnExactFieldsOk', WHERE WHAT IT READS IS OF BULK AT MOST 1048576: true; the input reads as it did. -/
def fnExactFieldsOkUptoRow : OpenClaim := { program := "ytinniomeblkmeaa", sum := "3f7cddbbbbd14d76aea5610a64b4c5eb80e7c1537ce920ad5e480adea206e0d7", func := "loop.example/spandrel/laws.FnExactFieldsOk", spec := "fnExactFieldsOk", apart := false, narrowed := true }
def FnExactFieldsOkUptoSaid : Prop := fnExactFieldsOkUptoRow.holds Try.pinned (OpenSpec.upto fnExactFieldsOkSpec)

/-- 'laws.FnExactDocOk', WHERE WHAT IT READS IS OF BULK AT MOST 1048576: true; the input reads as it did. -/
def fnExactDocOkUptoRow : OpenClaim := { program := "ytinniomeblkmeaa", sum := "3f7cddbbbbd14d76aea5610a64b4c5eb80e7c1537ce920ad5e480adea206e0d7", func := "loop.example/spandrel/laws.FnExactDocOk", spec := "fnExactDocOk", unfollowed := true, recurses := true, apart := false, narrowed := true }
def FnExactDocOkUptoSaid : Prop := fnExactDocOkUptoRow.holds Try.pinned (OpenSpec.upto fnExactDocOkSpec)

/-- 'laws.FnExactDocText', WHERE WHAT IT READS IS OF BULK AT MOST 1048576: true; the input reads as it did. -/
def fnExactDocTextUptoRow : OpenClaim := { program := "ytinniomeblkmeaa", sum := "3f7cddbbbbd14d76aea5610a64b4c5eb80e7c1537ce920ad5e480adea206e0d7", func := "loop.example/spandrel/laws.FnExactDocText", spec := "fnExactDocText", apart := false, narrowed := true }
def FnExactDocTextUptoSaid : Prop := fnExactDocTextUptoRow.holds Try.pinned (OpenSpec.upto fnExactDocTextSpec)

/-- 'laws.FnExactDocPut', WHERE WHAT IT READS IS OF BULK AT MOST 1048576: true; the input reads as it did. -/
def fnExactDocPutUptoRow : OpenClaim := { program := "ytinniomeblkmeaa", sum := "3f7cddbbbbd14d76aea5610a64b4c5eb80e7c1537ce920ad5e480adea206e0d7", func := "loop.example/spandrel/laws.FnExactDocPut", spec := "fnExactDocPut", inPlace := ["internal/abi.NoEscape"], apart := false, narrowed := true }
def FnExactDocPutUptoSaid : Prop := fnExactDocPutUptoRow.holds Try.pinned (OpenSpec.upto fnExactDocPutSpec)

end Rows
end Go.Proofs.Ytinniomeblkmeaa
