/-
  No cell of these rows narrows 'for every input' (looked for: loops, veiled, ifaces, maps, wideKeys, modest, calm, conditions, laid).
  DERIVED. THE GIVEN ROWS OF THIS SEAT. 12 by the template 'for every input the law returns true; each argument reads behind the call as it read before'; 0 by the template 'total and deterministic' (their statements: YtbkehpoigaeboaaTotals.lean).
  GIVEN WITH THE SEED: the statements are not yours to turn. If you find one false, say at which input.
  Laid BY PROGRAM, IN A SANDBOX (cutbox-rows.mjs): the forced cells as the released guide's own fill.sh prints them over the translation b3cc9bacf7ae7540… (all of the seat's roots in one cut). By AI agents, Wed Nov 11 2026. No macro, syntax, notation, axiom, sorry.
-/
import Derived.Test.YtbkehpoigaeboaaChecked
import GoSem.Claim
import GoSem.ClaimJoined
import GoSem.ClaimMapViews
import Derived.JoinedTies
import Derived.KernelRfl
namespace Go.Proofs.Ytbkehpoigaeboaa
/- THE CELL 'sum', in the pinned program and in every row, IS THE sha256 OF THE DUMP (.gsa) THAT YtbkehpoigaeboaaProg.lean LOADS. Nothing in Lean hashes anything: it is a label: what it is worth is what the hold of that sum in a sandbox is worth. -/
noncomputable def Try.pinned : Pinned := { name := "ytbkehpoigaeboaa", sum := "b3cc9bacf7ae7540276c027e48436457a27486207989a04ecb8148265e51c166", checked := Try.checked }
namespace Rows
def none {H : Type} : Left H := { results := [], args := [] }

/-- 'laws.FnFold': WHATEVER THE INPUT: true; the input reads as it did. -/
def fnFoldSpec : ChangeSpec := { name := "fnFold", fn := fun _ => fun
  | [d1, d2] => { results := [.lit (.bool true)], args := [d1, d2] }
  | _ => none }
def fnFoldRow : OpenClaim := { program := "ytbkehpoigaeboaa", sum := "b3cc9bacf7ae7540276c027e48436457a27486207989a04ecb8148265e51c166", func := "loop.example/spandrel/laws.FnFold", spec := "fnFold", apart := false }
def FnFoldSaid : Prop := fnFoldRow.holds Try.pinned (OpenSpec.ofChange fnFoldSpec)

/-- ITS FALSE NEIGHBOUR: 'it returns false'. Refute it at one input. -/
def fnFoldWrong : ChangeSpec := { name := "fnFold", fn := fun _ => fun
  | [d1, d2] => { results := [.lit (.bool false)], args := [d1, d2] }
  | _ => none }
def FnFoldWrongFalsely : Prop := fnFoldRow.holds Try.pinned (OpenSpec.ofChange fnFoldWrong)

/-- 'laws.FnWords': WHATEVER THE INPUT: true; the input reads as it did. -/
def fnWordsSpec : ChangeSpec := { name := "fnWords", fn := fun _ => fun
  | [d] => { results := [.lit (.bool true)], args := [d] }
  | _ => none }
def fnWordsRow : OpenClaim := { program := "ytbkehpoigaeboaa", sum := "b3cc9bacf7ae7540276c027e48436457a27486207989a04ecb8148265e51c166", func := "loop.example/spandrel/laws.FnWords", spec := "fnWords", unfollowed := true, recurses := true, apart := false }
def FnWordsSaid : Prop := fnWordsRow.holds Try.pinned (OpenSpec.ofChange fnWordsSpec)

/-- ITS FALSE NEIGHBOUR: 'it returns false'. Refute it at one input. -/
def fnWordsWrong : ChangeSpec := { name := "fnWords", fn := fun _ => fun
  | [d] => { results := [.lit (.bool false)], args := [d] }
  | _ => none }
def FnWordsWrongFalsely : Prop := fnWordsRow.holds Try.pinned (OpenSpec.ofChange fnWordsWrong)

/-- 'laws.FnWordsTwo': WHATEVER THE INPUT: true; the input reads as it did. -/
def fnWordsTwoSpec : ChangeSpec := { name := "fnWordsTwo", fn := fun _ => fun
  | [d1, d2] => { results := [.lit (.bool true)], args := [d1, d2] }
  | _ => none }
def fnWordsTwoRow : OpenClaim := { program := "ytbkehpoigaeboaa", sum := "b3cc9bacf7ae7540276c027e48436457a27486207989a04ecb8148265e51c166", func := "loop.example/spandrel/laws.FnWordsTwo", spec := "fnWordsTwo", unfollowed := true, recurses := true, apart := false }
def FnWordsTwoSaid : Prop := fnWordsTwoRow.holds Try.pinned (OpenSpec.ofChange fnWordsTwoSpec)

/-- ITS FALSE NEIGHBOUR: 'it returns false'. Refute it at one input. -/
def fnWordsTwoWrong : ChangeSpec := { name := "fnWordsTwo", fn := fun _ => fun
  | [d1, d2] => { results := [.lit (.bool false)], args := [d1, d2] }
  | _ => none }
def FnWordsTwoWrongFalsely : Prop := fnWordsTwoRow.holds Try.pinned (OpenSpec.ofChange fnWordsTwoWrong)

/-- 'laws.FnStem': WHATEVER THE INPUT: true; the input reads as it did. -/
def fnStemSpec : ChangeSpec := { name := "fnStem", fn := fun _ => fun
  | [d] => { results := [.lit (.bool true)], args := [d] }
  | _ => none }
def fnStemRow : OpenClaim := { program := "ytbkehpoigaeboaa", sum := "b3cc9bacf7ae7540276c027e48436457a27486207989a04ecb8148265e51c166", func := "loop.example/spandrel/laws.FnStem", spec := "fnStem", apart := false }
def FnStemSaid : Prop := fnStemRow.holds Try.pinned (OpenSpec.ofChange fnStemSpec)

/-- ITS FALSE NEIGHBOUR: 'it returns false'. Refute it at one input. -/
def fnStemWrong : ChangeSpec := { name := "fnStem", fn := fun _ => fun
  | [d] => { results := [.lit (.bool false)], args := [d] }
  | _ => none }
def FnStemWrongFalsely : Prop := fnStemRow.holds Try.pinned (OpenSpec.ofChange fnStemWrong)

/-- 'laws.FnTerms': WHATEVER THE INPUT: true; the input reads as it did. -/
def fnTermsSpec : ChangeSpec := { name := "fnTerms", fn := fun _ => fun
  | [d] => { results := [.lit (.bool true)], args := [d] }
  | _ => none }
def fnTermsRow : OpenClaim := { program := "ytbkehpoigaeboaa", sum := "b3cc9bacf7ae7540276c027e48436457a27486207989a04ecb8148265e51c166", func := "loop.example/spandrel/laws.FnTerms", spec := "fnTerms", unfollowed := true, recurses := true, apart := false }
def FnTermsSaid : Prop := fnTermsRow.holds Try.pinned (OpenSpec.ofChange fnTermsSpec)

/-- ITS FALSE NEIGHBOUR: 'it returns false'. Refute it at one input. -/
def fnTermsWrong : ChangeSpec := { name := "fnTerms", fn := fun _ => fun
  | [d] => { results := [.lit (.bool false)], args := [d] }
  | _ => none }
def FnTermsWrongFalsely : Prop := fnTermsRow.holds Try.pinned (OpenSpec.ofChange fnTermsWrong)

/-- 'laws.FnStemMany': WHATEVER THE INPUT: true; the input reads as it did. -/
def fnStemManySpec : ChangeSpec := { name := "fnStemMany", fn := fun _ => fun
  | [d] => { results := [.lit (.bool true)], args := [d] }
  | _ => none }
def fnStemManyRow : OpenClaim := { program := "ytbkehpoigaeboaa", sum := "b3cc9bacf7ae7540276c027e48436457a27486207989a04ecb8148265e51c166", func := "loop.example/spandrel/laws.FnStemMany", spec := "fnStemMany", unfollowed := true, recurses := true, apart := false }
def FnStemManySaid : Prop := fnStemManyRow.holds Try.pinned (OpenSpec.ofChange fnStemManySpec)

/-- ITS FALSE NEIGHBOUR: 'it returns false'. Refute it at one input. -/
def fnStemManyWrong : ChangeSpec := { name := "fnStemMany", fn := fun _ => fun
  | [d] => { results := [.lit (.bool false)], args := [d] }
  | _ => none }
def FnStemManyWrongFalsely : Prop := fnStemManyRow.holds Try.pinned (OpenSpec.ofChange fnStemManyWrong)

/-- 'laws.FnExactFold': WHATEVER THE INPUT: true; the input reads as it did. -/
def fnExactFoldSpec : ChangeSpec := { name := "fnExactFold", fn := fun _ => fun
  | [d] => { results := [.lit (.bool true)], args := [d] }
  | _ => none }
def fnExactFoldRow : OpenClaim := { program := "ytbkehpoigaeboaa", sum := "b3cc9bacf7ae7540276c027e48436457a27486207989a04ecb8148265e51c166", func := "loop.example/spandrel/laws.FnExactFold", spec := "fnExactFold", apart := false }
def FnExactFoldSaid : Prop := fnExactFoldRow.holds Try.pinned (OpenSpec.ofChange fnExactFoldSpec)

/-- ITS FALSE NEIGHBOUR: 'it returns false'. Refute it at one input. -/
def fnExactFoldWrong : ChangeSpec := { name := "fnExactFold", fn := fun _ => fun
  | [d] => { results := [.lit (.bool false)], args := [d] }
  | _ => none }
def FnExactFoldWrongFalsely : Prop := fnExactFoldRow.holds Try.pinned (OpenSpec.ofChange fnExactFoldWrong)

/-- 'laws.FnExactWords': WHATEVER THE INPUT: true; the input reads as it did. -/
def fnExactWordsSpec : ChangeSpec := { name := "fnExactWords", fn := fun _ => fun
  | [d] => { results := [.lit (.bool true)], args := [d] }
  | _ => none }
def fnExactWordsRow : OpenClaim := { program := "ytbkehpoigaeboaa", sum := "b3cc9bacf7ae7540276c027e48436457a27486207989a04ecb8148265e51c166", func := "loop.example/spandrel/laws.FnExactWords", spec := "fnExactWords", unfollowed := true, recurses := true, apart := false }
def FnExactWordsSaid : Prop := fnExactWordsRow.holds Try.pinned (OpenSpec.ofChange fnExactWordsSpec)

/-- ITS FALSE NEIGHBOUR: 'it returns false'. Refute it at one input. -/
def fnExactWordsWrong : ChangeSpec := { name := "fnExactWords", fn := fun _ => fun
  | [d] => { results := [.lit (.bool false)], args := [d] }
  | _ => none }
def FnExactWordsWrongFalsely : Prop := fnExactWordsRow.holds Try.pinned (OpenSpec.ofChange fnExactWordsWrong)

/-- 'laws.FnExactTerms': WHATEVER THE INPUT: true; the input reads as it did. -/
def fnExactTermsSpec : ChangeSpec := { name := "fnExactTerms", fn := fun _ => fun
  | [d] => { results := [.lit (.bool true)], args := [d] }
  | _ => none }
def fnExactTermsRow : OpenClaim := { program := "ytbkehpoigaeboaa", sum := "b3cc9bacf7ae7540276c027e48436457a27486207989a04ecb8148265e51c166", func := "loop.example/spandrel/laws.FnExactTerms", spec := "fnExactTerms", unfollowed := true, recurses := true, apart := false }
def FnExactTermsSaid : Prop := fnExactTermsRow.holds Try.pinned (OpenSpec.ofChange fnExactTermsSpec)

/-- ITS FALSE NEIGHBOUR: 'it returns false'. Refute it at one input. -/
def fnExactTermsWrong : ChangeSpec := { name := "fnExactTerms", fn := fun _ => fun
  | [d] => { results := [.lit (.bool false)], args := [d] }
  | _ => none }
def FnExactTermsWrongFalsely : Prop := fnExactTermsRow.holds Try.pinned (OpenSpec.ofChange fnExactTermsWrong)

/-- 'laws.FnExactStem': WHATEVER THE INPUT: true; the input reads as it did. -/
def fnExactStemSpec : ChangeSpec := { name := "fnExactStem", fn := fun _ => fun
  | [d] => { results := [.lit (.bool true)], args := [d] }
  | _ => none }
def fnExactStemRow : OpenClaim := { program := "ytbkehpoigaeboaa", sum := "b3cc9bacf7ae7540276c027e48436457a27486207989a04ecb8148265e51c166", func := "loop.example/spandrel/laws.FnExactStem", spec := "fnExactStem", apart := false }
def FnExactStemSaid : Prop := fnExactStemRow.holds Try.pinned (OpenSpec.ofChange fnExactStemSpec)

/-- ITS FALSE NEIGHBOUR: 'it returns false'. Refute it at one input. -/
def fnExactStemWrong : ChangeSpec := { name := "fnExactStem", fn := fun _ => fun
  | [d] => { results := [.lit (.bool false)], args := [d] }
  | _ => none }
def FnExactStemWrongFalsely : Prop := fnExactStemRow.holds Try.pinned (OpenSpec.ofChange fnExactStemWrong)

/-- 'laws.FnExactTermOk': WHATEVER THE INPUT: true; the input reads as it did. -/
def fnExactTermOkSpec : ChangeSpec := { name := "fnExactTermOk", fn := fun _ => fun
  | [d] => { results := [.lit (.bool true)], args := [d] }
  | _ => none }
def fnExactTermOkRow : OpenClaim := { program := "ytbkehpoigaeboaa", sum := "b3cc9bacf7ae7540276c027e48436457a27486207989a04ecb8148265e51c166", func := "loop.example/spandrel/laws.FnExactTermOk", spec := "fnExactTermOk", apart := false }
def FnExactTermOkSaid : Prop := fnExactTermOkRow.holds Try.pinned (OpenSpec.ofChange fnExactTermOkSpec)

/-- ITS FALSE NEIGHBOUR: 'it returns false'. Refute it at one input. -/
def fnExactTermOkWrong : ChangeSpec := { name := "fnExactTermOk", fn := fun _ => fun
  | [d] => { results := [.lit (.bool false)], args := [d] }
  | _ => none }
def FnExactTermOkWrongFalsely : Prop := fnExactTermOkRow.holds Try.pinned (OpenSpec.ofChange fnExactTermOkWrong)

/-- 'laws.FnExactNameOk': WHATEVER THE INPUT: true; the input reads as it did. -/
def fnExactNameOkSpec : ChangeSpec := { name := "fnExactNameOk", fn := fun _ => fun
  | [d] => { results := [.lit (.bool true)], args := [d] }
  | _ => none }
def fnExactNameOkRow : OpenClaim := { program := "ytbkehpoigaeboaa", sum := "b3cc9bacf7ae7540276c027e48436457a27486207989a04ecb8148265e51c166", func := "loop.example/spandrel/laws.FnExactNameOk", spec := "fnExactNameOk", apart := false }
def FnExactNameOkSaid : Prop := fnExactNameOkRow.holds Try.pinned (OpenSpec.ofChange fnExactNameOkSpec)

/-- ITS FALSE NEIGHBOUR: 'it returns false'. Refute it at one input. -/
def fnExactNameOkWrong : ChangeSpec := { name := "fnExactNameOk", fn := fun _ => fun
  | [d] => { results := [.lit (.bool false)], args := [d] }
  | _ => none }
def FnExactNameOkWrongFalsely : Prop := fnExactNameOkRow.holds Try.pinned (OpenSpec.ofChange fnExactNameOkWrong)

/- THE SECOND FORM. 'bulk': how many values and letters a reading holds, each counted each time it is reached (what is shared counts as often as it is met; a slice's spare places count too). A statement '..UptoSaid' is the law's where the arguments, and the package variables that the reading takes, are together of bulk at most 1048576: NARROWER than '..Said'. Prove '..Said' where nothing that the law and all that it calls make is longer than what came in: it says more and counts as full. Else prove '..UptoSaid'. A law counts once. -/
mutual
def uptoBulk {H : Type} : DataW H → Nat
  | .lit (.string bytes) => bytes.length + 1
  | .lit _ => 1
  | .nil => 1
  | .ptr d => uptoBulk d + 1
  | .slice elems spare => uptoBulkAll elems + uptoBulkAll spare + 1
  | .agg parts => uptoBulkAll parts + 1
  | .iface _ d => uptoBulk d + 1
  | .map entries => uptoBulkEntries entries + 1
  | .held _ => 1
def uptoBulkAll {H : Type} : List (DataW H) → Nat
  | [] => 0
  | d :: r => uptoBulk d + uptoBulkAll r
def uptoBulkEntries {H : Type} : List (Lit × DataW H) → Nat
  | [] => 0
  | x :: r => uptoBulkEntry x + uptoBulkEntries r
def uptoBulkEntry {H : Type} : Lit × DataW H → Nat
  | (.string bytes, d) => bytes.length + uptoBulk d + 1
  | (_, d) => uptoBulk d + 1
 end
def uptoSmall : (H : Type) → List (DataW H) → Bool := fun _ ds => decide (uptoBulkAll ds ≤ 1048576)
def OpenSpec.upto (s : _root_.Go.ChangeSpec) : _root_.Go.OpenSpec := { _root_.Go.OpenSpec.ofChange s with cond := some uptoSmall }

/-- 'laws.FnFold', WHERE WHAT IT READS IS OF BULK AT MOST 1048576: true; the input reads as it did. -/
def fnFoldUptoRow : OpenClaim := { program := "ytbkehpoigaeboaa", sum := "b3cc9bacf7ae7540276c027e48436457a27486207989a04ecb8148265e51c166", func := "loop.example/spandrel/laws.FnFold", spec := "fnFold", apart := false, narrowed := true }
def FnFoldUptoSaid : Prop := fnFoldUptoRow.holds Try.pinned (OpenSpec.upto fnFoldSpec)

/-- 'laws.FnWords', WHERE WHAT IT READS IS OF BULK AT MOST 1048576: true; the input reads as it did. -/
def fnWordsUptoRow : OpenClaim := { program := "ytbkehpoigaeboaa", sum := "b3cc9bacf7ae7540276c027e48436457a27486207989a04ecb8148265e51c166", func := "loop.example/spandrel/laws.FnWords", spec := "fnWords", unfollowed := true, recurses := true, apart := false, narrowed := true }
def FnWordsUptoSaid : Prop := fnWordsUptoRow.holds Try.pinned (OpenSpec.upto fnWordsSpec)

/-- 'laws.FnWordsTwo', WHERE WHAT IT READS IS OF BULK AT MOST 1048576: true; the input reads as it did. -/
def fnWordsTwoUptoRow : OpenClaim := { program := "ytbkehpoigaeboaa", sum := "b3cc9bacf7ae7540276c027e48436457a27486207989a04ecb8148265e51c166", func := "loop.example/spandrel/laws.FnWordsTwo", spec := "fnWordsTwo", unfollowed := true, recurses := true, apart := false, narrowed := true }
def FnWordsTwoUptoSaid : Prop := fnWordsTwoUptoRow.holds Try.pinned (OpenSpec.upto fnWordsTwoSpec)

/-- 'laws.FnStem', WHERE WHAT IT READS IS OF BULK AT MOST 1048576: true; the input reads as it did. -/
def fnStemUptoRow : OpenClaim := { program := "ytbkehpoigaeboaa", sum := "b3cc9bacf7ae7540276c027e48436457a27486207989a04ecb8148265e51c166", func := "loop.example/spandrel/laws.FnStem", spec := "fnStem", apart := false, narrowed := true }
def FnStemUptoSaid : Prop := fnStemUptoRow.holds Try.pinned (OpenSpec.upto fnStemSpec)

/-- 'laws.FnTerms', WHERE WHAT IT READS IS OF BULK AT MOST 1048576: true; the input reads as it did. -/
def fnTermsUptoRow : OpenClaim := { program := "ytbkehpoigaeboaa", sum := "b3cc9bacf7ae7540276c027e48436457a27486207989a04ecb8148265e51c166", func := "loop.example/spandrel/laws.FnTerms", spec := "fnTerms", unfollowed := true, recurses := true, apart := false, narrowed := true }
def FnTermsUptoSaid : Prop := fnTermsUptoRow.holds Try.pinned (OpenSpec.upto fnTermsSpec)

/-- 'laws.FnStemMany', WHERE WHAT IT READS IS OF BULK AT MOST 1048576: true; the input reads as it did. -/
def fnStemManyUptoRow : OpenClaim := { program := "ytbkehpoigaeboaa", sum := "b3cc9bacf7ae7540276c027e48436457a27486207989a04ecb8148265e51c166", func := "loop.example/spandrel/laws.FnStemMany", spec := "fnStemMany", unfollowed := true, recurses := true, apart := false, narrowed := true }
def FnStemManyUptoSaid : Prop := fnStemManyUptoRow.holds Try.pinned (OpenSpec.upto fnStemManySpec)

/-- 'laws.FnExactFold', WHERE WHAT IT READS IS OF BULK AT MOST 1048576: true; the input reads as it did. -/
def fnExactFoldUptoRow : OpenClaim := { program := "ytbkehpoigaeboaa", sum := "b3cc9bacf7ae7540276c027e48436457a27486207989a04ecb8148265e51c166", func := "loop.example/spandrel/laws.FnExactFold", spec := "fnExactFold", apart := false, narrowed := true }
def FnExactFoldUptoSaid : Prop := fnExactFoldUptoRow.holds Try.pinned (OpenSpec.upto fnExactFoldSpec)

/-- 'laws.FnExactWords', WHERE WHAT IT READS IS OF BULK AT MOST 1048576: true; the input reads as it did. -/
def fnExactWordsUptoRow : OpenClaim := { program := "ytbkehpoigaeboaa", sum := "b3cc9bacf7ae7540276c027e48436457a27486207989a04ecb8148265e51c166", func := "loop.example/spandrel/laws.FnExactWords", spec := "fnExactWords", unfollowed := true, recurses := true, apart := false, narrowed := true }
def FnExactWordsUptoSaid : Prop := fnExactWordsUptoRow.holds Try.pinned (OpenSpec.upto fnExactWordsSpec)

/-- 'laws.FnExactTerms', WHERE WHAT IT READS IS OF BULK AT MOST 1048576: true; the input reads as it did. -/
def fnExactTermsUptoRow : OpenClaim := { program := "ytbkehpoigaeboaa", sum := "b3cc9bacf7ae7540276c027e48436457a27486207989a04ecb8148265e51c166", func := "loop.example/spandrel/laws.FnExactTerms", spec := "fnExactTerms", unfollowed := true, recurses := true, apart := false, narrowed := true }
def FnExactTermsUptoSaid : Prop := fnExactTermsUptoRow.holds Try.pinned (OpenSpec.upto fnExactTermsSpec)

/-- 'laws.FnExactStem', WHERE WHAT IT READS IS OF BULK AT MOST 1048576: true; the input reads as it did. -/
def fnExactStemUptoRow : OpenClaim := { program := "ytbkehpoigaeboaa", sum := "b3cc9bacf7ae7540276c027e48436457a27486207989a04ecb8148265e51c166", func := "loop.example/spandrel/laws.FnExactStem", spec := "fnExactStem", apart := false, narrowed := true }
def FnExactStemUptoSaid : Prop := fnExactStemUptoRow.holds Try.pinned (OpenSpec.upto fnExactStemSpec)

/-- 'laws.FnExactTermOk', WHERE WHAT IT READS IS OF BULK AT MOST 1048576: true; the input reads as it did. -/
def fnExactTermOkUptoRow : OpenClaim := { program := "ytbkehpoigaeboaa", sum := "b3cc9bacf7ae7540276c027e48436457a27486207989a04ecb8148265e51c166", func := "loop.example/spandrel/laws.FnExactTermOk", spec := "fnExactTermOk", apart := false, narrowed := true }
def FnExactTermOkUptoSaid : Prop := fnExactTermOkUptoRow.holds Try.pinned (OpenSpec.upto fnExactTermOkSpec)

/-- 'laws.FnExactNameOk', WHERE WHAT IT READS IS OF BULK AT MOST 1048576: true; the input reads as it did. -/
def fnExactNameOkUptoRow : OpenClaim := { program := "ytbkehpoigaeboaa", sum := "b3cc9bacf7ae7540276c027e48436457a27486207989a04ecb8148265e51c166", func := "loop.example/spandrel/laws.FnExactNameOk", spec := "fnExactNameOk", apart := false, narrowed := true }
def FnExactNameOkUptoSaid : Prop := fnExactNameOkUptoRow.holds Try.pinned (OpenSpec.upto fnExactNameOkSpec)

end Rows
end Go.Proofs.Ytbkehpoigaeboaa
