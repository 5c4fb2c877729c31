/-
  No cell of these rows narrows 'for every input' (looked for: loops, veiled, ifaces, maps, wideKeys, modest, calm, conditions, laid).
  DERIVED. THE GIVEN ROWS OF THIS SEAT. 6 by the template 'for every input the law returns true; each argument reads behind the call as it read before'; 0 by the template 'total and deterministic' (their statements: YtbifagdcnpnpjaaGreatTotals.lean).
  GIVEN WITH THE SEED: the statements are not yours to turn. If you find one false, say at which input.
  Laid BY PROGRAM, IN A SANDBOX (cutbox-rows.mjs): the forced cells as the released guide's own fill.sh prints them over the translation e4ce10e9a237cf2a… (all of the seat's roots in one cut). By AI agents, Wed Nov 11 2026. No macro, syntax, notation, axiom, sorry.
-/
import Derived.Test.YtbifagdcnpnpjaaGreatChecked
import GoSem.Claim
import GoSem.ClaimJoined
import GoSem.ClaimMapViews
import Derived.JoinedTies
import Derived.KernelRfl
namespace Go.Proofs.YtbifagdcnpnpjaaGreat
/- THE CELL 'sum', in the pinned program and in every row, IS THE sha256 OF THE DUMP (.gsa) THAT YtbifagdcnpnpjaaGreatProg.lean LOADS. Nothing in Lean hashes anything: it is a label: what it is worth is what the hold of that sum in a sandbox is worth. -/
noncomputable def Tryz.pinned : Pinned := { name := "ytbifagdcnpnpjaagreat", sum := "e4ce10e9a237cf2ac757816af499d32933b9e5233f9f38ade045217c4858e67f", checked := Tryz.checked }
namespace Rows
def none {H : Type} : Left H := { results := [], args := [] }

/-- 'laws.FnExactIndexOk': WHATEVER THE INPUT: true; the input reads as it did. -/
def fnExactIndexOkSpec : ChangeSpec := { name := "fnExactIndexOk", fn := fun _ => fun
  | [d] => { results := [.lit (.bool true)], args := [d] }
  | _ => none }
def fnExactIndexOkRow : OpenClaim := { program := "ytbifagdcnpnpjaagreat", sum := "e4ce10e9a237cf2ac757816af499d32933b9e5233f9f38ade045217c4858e67f", func := "loop.example/spandrel/laws.FnExactIndexOk", spec := "fnExactIndexOk", inPlace := ["slices.overlaps[loop.example/spandrel/impl.wordSpot]"], unfollowed := true, recurses := true, apart := false }
def FnExactIndexOkSaid : Prop := fnExactIndexOkRow.holds Tryz.pinned (OpenSpec.ofChange fnExactIndexOkSpec)

/-- ITS FALSE NEIGHBOUR: 'it returns false'. Refute it at one input. -/
def fnExactIndexOkWrong : ChangeSpec := { name := "fnExactIndexOk", fn := fun _ => fun
  | [d] => { results := [.lit (.bool false)], args := [d] }
  | _ => none }
def FnExactIndexOkWrongFalsely : Prop := fnExactIndexOkRow.holds Tryz.pinned (OpenSpec.ofChange fnExactIndexOkWrong)

/-- 'laws.FnExactIndexDoc': WHATEVER THE INPUT: true; the input reads as it did. -/
def fnExactIndexDocSpec : ChangeSpec := { name := "fnExactIndexDoc", fn := fun _ => fun
  | [d1, d2] => { results := [.lit (.bool true)], args := [d1, d2] }
  | _ => none }
def fnExactIndexDocRow : OpenClaim := { program := "ytbifagdcnpnpjaagreat", sum := "e4ce10e9a237cf2ac757816af499d32933b9e5233f9f38ade045217c4858e67f", func := "loop.example/spandrel/laws.FnExactIndexDoc", spec := "fnExactIndexDoc", inPlace := ["slices.overlaps[loop.example/spandrel/impl.wordSpot]"], unfollowed := true, recurses := true, apart := false }
def FnExactIndexDocSaid : Prop := fnExactIndexDocRow.holds Tryz.pinned (OpenSpec.ofChange fnExactIndexDocSpec)

/-- ITS FALSE NEIGHBOUR: 'it returns false'. Refute it at one input. -/
def fnExactIndexDocWrong : ChangeSpec := { name := "fnExactIndexDoc", fn := fun _ => fun
  | [d1, d2] => { results := [.lit (.bool false)], args := [d1, d2] }
  | _ => none }
def FnExactIndexDocWrongFalsely : Prop := fnExactIndexDocRow.holds Tryz.pinned (OpenSpec.ofChange fnExactIndexDocWrong)

/-- 'laws.FnExactIndexDrop': WHATEVER THE INPUT: true; the input reads as it did. -/
def fnExactIndexDropSpec : ChangeSpec := { name := "fnExactIndexDrop", fn := fun _ => fun
  | [d1, d2] => { results := [.lit (.bool true)], args := [d1, d2] }
  | _ => none }
def fnExactIndexDropRow : OpenClaim := { program := "ytbifagdcnpnpjaagreat", sum := "e4ce10e9a237cf2ac757816af499d32933b9e5233f9f38ade045217c4858e67f", func := "loop.example/spandrel/laws.FnExactIndexDrop", spec := "fnExactIndexDrop", inPlace := ["slices.overlaps[loop.example/spandrel/impl.wordSpot]"], unfollowed := true, recurses := true, apart := false }
def FnExactIndexDropSaid : Prop := fnExactIndexDropRow.holds Tryz.pinned (OpenSpec.ofChange fnExactIndexDropSpec)

/-- ITS FALSE NEIGHBOUR: 'it returns false'. Refute it at one input. -/
def fnExactIndexDropWrong : ChangeSpec := { name := "fnExactIndexDrop", fn := fun _ => fun
  | [d1, d2] => { results := [.lit (.bool false)], args := [d1, d2] }
  | _ => none }
def FnExactIndexDropWrongFalsely : Prop := fnExactIndexDropRow.holds Tryz.pinned (OpenSpec.ofChange fnExactIndexDropWrong)

/-- 'laws.FnExactIndexPut': WHATEVER THE INPUT: true; the input reads as it did. -/
def fnExactIndexPutSpec : ChangeSpec := { name := "fnExactIndexPut", fn := fun _ => fun
  | [d1, d2] => { results := [.lit (.bool true)], args := [d1, d2] }
  | _ => none }
def fnExactIndexPutRow : OpenClaim := { program := "ytbifagdcnpnpjaagreat", sum := "e4ce10e9a237cf2ac757816af499d32933b9e5233f9f38ade045217c4858e67f", func := "loop.example/spandrel/laws.FnExactIndexPut", spec := "fnExactIndexPut", inPlace := ["slices.overlaps[loop.example/spandrel/impl.wordSpot]"], unfollowed := true, recurses := true, apart := false }
def FnExactIndexPutSaid : Prop := fnExactIndexPutRow.holds Tryz.pinned (OpenSpec.ofChange fnExactIndexPutSpec)

/-- ITS FALSE NEIGHBOUR: 'it returns false'. Refute it at one input. -/
def fnExactIndexPutWrong : ChangeSpec := { name := "fnExactIndexPut", fn := fun _ => fun
  | [d1, d2] => { results := [.lit (.bool false)], args := [d1, d2] }
  | _ => none }
def FnExactIndexPutWrongFalsely : Prop := fnExactIndexPutRow.holds Tryz.pinned (OpenSpec.ofChange fnExactIndexPutWrong)

/-- 'laws.FnExactIndexTerms': WHATEVER THE INPUT: true; the input reads as it did. -/
def fnExactIndexTermsSpec : ChangeSpec := { name := "fnExactIndexTerms", fn := fun _ => fun
  | [d1, d2, d3] => { results := [.lit (.bool true)], args := [d1, d2, d3] }
  | _ => none }
def fnExactIndexTermsRow : OpenClaim := { program := "ytbifagdcnpnpjaagreat", sum := "e4ce10e9a237cf2ac757816af499d32933b9e5233f9f38ade045217c4858e67f", func := "loop.example/spandrel/laws.FnExactIndexTerms", spec := "fnExactIndexTerms", inPlace := ["slices.overlaps[loop.example/spandrel/impl.wordSpot]"], unfollowed := true, recurses := true, apart := false }
def FnExactIndexTermsSaid : Prop := fnExactIndexTermsRow.holds Tryz.pinned (OpenSpec.ofChange fnExactIndexTermsSpec)

/-- ITS FALSE NEIGHBOUR: 'it returns false'. Refute it at one input. -/
def fnExactIndexTermsWrong : ChangeSpec := { name := "fnExactIndexTerms", fn := fun _ => fun
  | [d1, d2, d3] => { results := [.lit (.bool false)], args := [d1, d2, d3] }
  | _ => none }
def FnExactIndexTermsWrongFalsely : Prop := fnExactIndexTermsRow.holds Tryz.pinned (OpenSpec.ofChange fnExactIndexTermsWrong)

/-- 'laws.FnExactIndexPosts': WHATEVER THE INPUT: true; the input reads as it did. -/
def fnExactIndexPostsSpec : ChangeSpec := { name := "fnExactIndexPosts", fn := fun _ => fun
  | [d1, d2, d3] => { results := [.lit (.bool true)], args := [d1, d2, d3] }
  | _ => none }
def fnExactIndexPostsRow : OpenClaim := { program := "ytbifagdcnpnpjaagreat", sum := "e4ce10e9a237cf2ac757816af499d32933b9e5233f9f38ade045217c4858e67f", func := "loop.example/spandrel/laws.FnExactIndexPosts", spec := "fnExactIndexPosts", inPlace := ["slices.overlaps[loop.example/spandrel/impl.wordSpot]"], unfollowed := true, recurses := true, apart := false }
def FnExactIndexPostsSaid : Prop := fnExactIndexPostsRow.holds Tryz.pinned (OpenSpec.ofChange fnExactIndexPostsSpec)

/-- ITS FALSE NEIGHBOUR: 'it returns false'. Refute it at one input. -/
def fnExactIndexPostsWrong : ChangeSpec := { name := "fnExactIndexPosts", fn := fun _ => fun
  | [d1, d2, d3] => { results := [.lit (.bool false)], args := [d1, d2, d3] }
  | _ => none }
def FnExactIndexPostsWrongFalsely : Prop := fnExactIndexPostsRow.holds Tryz.pinned (OpenSpec.ofChange fnExactIndexPostsWrong)

/- THE SECOND FORM. 'bulk': how many values and letters a reading holds, each counted each time it is reached (what is shared counts as often as it is met; a slice's spare places count too). A statement '..UptoSaid' is the law's where the arguments, and the package variables that the reading takes, are together of bulk at most 1048576: NARROWER than '..Said'. Prove '..Said' where nothing that the law and all that it calls make is longer than what came in: it says more and counts as full. Else prove '..UptoSaid'. A law counts once. -/
mutual
def uptoBulk {H : Type} : DataW H → Nat
  | .lit (.string bytes) => bytes.length + 1
  | .lit _ => 1
  | .nil => 1
  | .ptr d => uptoBulk d + 1
  | .slice elems spare => uptoBulkAll elems + uptoBulkAll spare + 1
  | .agg parts => uptoBulkAll parts + 1
  | .iface _ d => uptoBulk d + 1
  | .map entries => uptoBulkEntries entries + 1
  | .held _ => 1
def uptoBulkAll {H : Type} : List (DataW H) → Nat
  | [] => 0
  | d :: r => uptoBulk d + uptoBulkAll r
def uptoBulkEntries {H : Type} : List (Lit × DataW H) → Nat
  | [] => 0
  | x :: r => uptoBulkEntry x + uptoBulkEntries r
def uptoBulkEntry {H : Type} : Lit × DataW H → Nat
  | (.string bytes, d) => bytes.length + uptoBulk d + 1
  | (_, d) => uptoBulk d + 1
 end
def uptoSmall : (H : Type) → List (DataW H) → Bool := fun _ ds => decide (uptoBulkAll ds ≤ 1048576)
def OpenSpec.upto (s : _root_.Go.ChangeSpec) : _root_.Go.OpenSpec := { _root_.Go.OpenSpec.ofChange s with cond := some uptoSmall }

/-- 'laws.FnExactIndexOk', WHERE WHAT IT READS IS OF BULK AT MOST 1048576: true; the input reads as it did. -/
def fnExactIndexOkUptoRow : OpenClaim := { program := "ytbifagdcnpnpjaagreat", sum := "e4ce10e9a237cf2ac757816af499d32933b9e5233f9f38ade045217c4858e67f", func := "loop.example/spandrel/laws.FnExactIndexOk", spec := "fnExactIndexOk", inPlace := ["slices.overlaps[loop.example/spandrel/impl.wordSpot]"], unfollowed := true, recurses := true, apart := false, narrowed := true }
def FnExactIndexOkUptoSaid : Prop := fnExactIndexOkUptoRow.holds Tryz.pinned (OpenSpec.upto fnExactIndexOkSpec)

/-- 'laws.FnExactIndexDoc', WHERE WHAT IT READS IS OF BULK AT MOST 1048576: true; the input reads as it did. -/
def fnExactIndexDocUptoRow : OpenClaim := { program := "ytbifagdcnpnpjaagreat", sum := "e4ce10e9a237cf2ac757816af499d32933b9e5233f9f38ade045217c4858e67f", func := "loop.example/spandrel/laws.FnExactIndexDoc", spec := "fnExactIndexDoc", inPlace := ["slices.overlaps[loop.example/spandrel/impl.wordSpot]"], unfollowed := true, recurses := true, apart := false, narrowed := true }
def FnExactIndexDocUptoSaid : Prop := fnExactIndexDocUptoRow.holds Tryz.pinned (OpenSpec.upto fnExactIndexDocSpec)

/-- 'laws.FnExactIndexDrop', WHERE WHAT IT READS IS OF BULK AT MOST 1048576: true; the input reads as it did. -/
def fnExactIndexDropUptoRow : OpenClaim := { program := "ytbifagdcnpnpjaagreat", sum := "e4ce10e9a237cf2ac757816af499d32933b9e5233f9f38ade045217c4858e67f", func := "loop.example/spandrel/laws.FnExactIndexDrop", spec := "fnExactIndexDrop", inPlace := ["slices.overlaps[loop.example/spandrel/impl.wordSpot]"], unfollowed := true, recurses := true, apart := false, narrowed := true }
def FnExactIndexDropUptoSaid : Prop := fnExactIndexDropUptoRow.holds Tryz.pinned (OpenSpec.upto fnExactIndexDropSpec)

/-- 'laws.FnExactIndexPut', WHERE WHAT IT READS IS OF BULK AT MOST 1048576: true; the input reads as it did. -/
def fnExactIndexPutUptoRow : OpenClaim := { program := "ytbifagdcnpnpjaagreat", sum := "e4ce10e9a237cf2ac757816af499d32933b9e5233f9f38ade045217c4858e67f", func := "loop.example/spandrel/laws.FnExactIndexPut", spec := "fnExactIndexPut", inPlace := ["slices.overlaps[loop.example/spandrel/impl.wordSpot]"], unfollowed := true, recurses := true, apart := false, narrowed := true }
def FnExactIndexPutUptoSaid : Prop := fnExactIndexPutUptoRow.holds Tryz.pinned (OpenSpec.upto fnExactIndexPutSpec)

/-- 'laws.FnExactIndexTerms', WHERE WHAT IT READS IS OF BULK AT MOST 1048576: true; the input reads as it did. -/
def fnExactIndexTermsUptoRow : OpenClaim := { program := "ytbifagdcnpnpjaagreat", sum := "e4ce10e9a237cf2ac757816af499d32933b9e5233f9f38ade045217c4858e67f", func := "loop.example/spandrel/laws.FnExactIndexTerms", spec := "fnExactIndexTerms", inPlace := ["slices.overlaps[loop.example/spandrel/impl.wordSpot]"], unfollowed := true, recurses := true, apart := false, narrowed := true }
def FnExactIndexTermsUptoSaid : Prop := fnExactIndexTermsUptoRow.holds Tryz.pinned (OpenSpec.upto fnExactIndexTermsSpec)

/-- 'laws.FnExactIndexPosts', WHERE WHAT IT READS IS OF BULK AT MOST 1048576: true; the input reads as it did. -/
def fnExactIndexPostsUptoRow : OpenClaim := { program := "ytbifagdcnpnpjaagreat", sum := "e4ce10e9a237cf2ac757816af499d32933b9e5233f9f38ade045217c4858e67f", func := "loop.example/spandrel/laws.FnExactIndexPosts", spec := "fnExactIndexPosts", inPlace := ["slices.overlaps[loop.example/spandrel/impl.wordSpot]"], unfollowed := true, recurses := true, apart := false, narrowed := true }
def FnExactIndexPostsUptoSaid : Prop := fnExactIndexPostsUptoRow.holds Tryz.pinned (OpenSpec.upto fnExactIndexPostsSpec)

end Rows
end Go.Proofs.YtbifagdcnpnpjaaGreat
