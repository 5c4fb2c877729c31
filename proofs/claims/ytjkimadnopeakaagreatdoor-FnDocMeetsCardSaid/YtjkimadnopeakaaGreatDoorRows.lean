/-
  NARROWER THAN 'FOR EVERY INPUT', by the rows' own cells (each row's printed sentence says how): FnExactMeets: loops, laid · FnMeets: laid · FnMeetsTurn: laid · FnMeetsWord: laid · FnDocMeets: laid · FnDocLess: laid · FnQueryTwice: laid.
  DERIVED. THE GIVEN ROWS OF THIS SEAT. 7 by the template 'for every input the law returns true; each argument reads behind the call as it read before'; 0 by the template 'total and deterministic' (their statements: YtjkimadnopeakaaGreatDoorTotals.lean).
  GIVEN WITH THE SEED: the statements are not yours to turn. If you find one false, say at which input.
  Laid BY PROGRAM, IN A SANDBOX (cutbox-rows.mjs): the forced cells as the released guide's own fill.sh prints them over the translation 29bc961eded36fdc… (all of the seat's roots in one cut). By AI agents, Wed Nov 11 2026. No macro, syntax, notation, axiom, sorry.
-/
import Derived.Test.YtjkimadnopeakaaGreatDoorChecked
import GoSem.PinnedTables
import GoSem.Claim
import GoSem.ClaimJoined
import GoSem.ClaimMapViews
import Derived.JoinedTies
import Derived.KernelRfl
namespace Go.Proofs.YtjkimadnopeakaaGreatDoor
/- THE CELL 'sum', in the pinned program and in every row, IS THE sha256 OF THE DUMP (.gsa) THAT YtjkimadnopeakaaGreatDoorProg.lean LOADS. Nothing in Lean hashes anything: it is a label: what it is worth is what the hold of that sum in a sandbox is worth. -/
noncomputable def Tryz.pinned : Pinned := { name := "ytjkimadnopeakaagreatdoor", sum := "29bc961eded36fdcd7a3340105648905eae2cc65945b0d4fb02826c2579fd2e6", checked := Tryz.checked }
namespace Rows
def none {H : Type} : Left H := { results := [], args := [] }

/- WHAT THE LISTED PACKAGE-LEVEL VARIABLES READ AS WHEN THE CALL BEGINS. Each datum BY PROGRAM (the guide's laid-datum.mjs) off the statement by which the dump's own 'gosem.cut.vars' lays the variable. In a bare row this is a premise. The card (YtjkimadnopeakaaGreatDoorCards.lean) ties it to the program's text. -/
def laid_unicode_utf8_acceptRanges {H : Type} : DataW H := .agg [.agg [.lit (.int .u8 128), .lit (.int .u8 191)], .agg [.lit (.int .u8 160), .lit (.int .u8 191)], .agg [.lit (.int .u8 128), .lit (.int .u8 159)], .agg [.lit (.int .u8 144), .lit (.int .u8 191)], .agg [.lit (.int .u8 128), .lit (.int .u8 143)], .agg [.lit (.int .u8 0), .lit (.int .u8 0)], .agg [.lit (.int .u8 0), .lit (.int .u8 0)], .agg [.lit (.int .u8 0), .lit (.int .u8 0)], .agg [.lit (.int .u8 0), .lit (.int .u8 0)], .agg [.lit (.int .u8 0), .lit (.int .u8 0)], .agg [.lit (.int .u8 0), .lit (.int .u8 0)], .agg [.lit (.int .u8 0), .lit (.int .u8 0)], .agg [.lit (.int .u8 0), .lit (.int .u8 0)], .agg [.lit (.int .u8 0), .lit (.int .u8 0)], .agg [.lit (.int .u8 0), .lit (.int .u8 0)], .agg [.lit (.int .u8 0), .lit (.int .u8 0)]]
/-- One of Go's own tables, pinned by name: the form's constant. -/
def laid_unicode_utf8_first : DataW Unit := Go.Pinned.utf8First

/-- 'laws.FnExactMeets': WHATEVER THE INPUT: true; the input reads as it did. -/
def fnExactMeetsSpec : ChangeSpec := { name := "fnExactMeets", fn := fun _ => fun
  | [d1, d2, d3] => { results := [.lit (.bool true)], args := [d1, d2, d3] }
  | _ => none }
def fnExactMeetsRow : OpenClaim := { program := "ytjkimadnopeakaagreatdoor", sum := "29bc961eded36fdcd7a3340105648905eae2cc65945b0d4fb02826c2579fd2e6", func := "loop.example/spandrel/laws.FnExactMeets", spec := "fnExactMeets", inPlace := ["internal/bytealg.CountString", "internal/bytealg.IndexByteString", "internal/bytealg.IndexString"], unfollowed := true, recurses := true, named := ["unicode/utf8.first", "unicode/utf8.acceptRanges", "internal/bytealg.MaxLen"], loops := true, apart := false, laid := [("unicode/utf8.acceptRanges", laid_unicode_utf8_acceptRanges), ("unicode/utf8.first", laid_unicode_utf8_first)] }
def FnExactMeetsSaid : Prop := fnExactMeetsRow.holds Tryz.pinned (OpenSpec.ofChange fnExactMeetsSpec)

/-- ITS FALSE NEIGHBOUR: 'it returns false'. Refute it at one input. -/
def fnExactMeetsWrong : ChangeSpec := { name := "fnExactMeets", fn := fun _ => fun
  | [d1, d2, d3] => { results := [.lit (.bool false)], args := [d1, d2, d3] }
  | _ => none }
def FnExactMeetsWrongFalsely : Prop := fnExactMeetsRow.holds Tryz.pinned (OpenSpec.ofChange fnExactMeetsWrong)

/-- 'laws.FnMeets': WHATEVER THE INPUT: true; the input reads as it did. -/
def fnMeetsSpec : ChangeSpec := { name := "fnMeets", fn := fun _ => fun
  | [d] => { results := [.lit (.bool true)], args := [d] }
  | _ => none }
def fnMeetsRow : OpenClaim := { program := "ytjkimadnopeakaagreatdoor", sum := "29bc961eded36fdcd7a3340105648905eae2cc65945b0d4fb02826c2579fd2e6", func := "loop.example/spandrel/laws.FnMeets", spec := "fnMeets", inPlace := ["internal/bytealg.CountString", "internal/bytealg.IndexByteString", "internal/bytealg.IndexString"], unfollowed := true, recurses := true, named := ["unicode/utf8.first", "unicode/utf8.acceptRanges", "internal/bytealg.MaxLen"], apart := false, laid := [("unicode/utf8.acceptRanges", laid_unicode_utf8_acceptRanges), ("unicode/utf8.first", laid_unicode_utf8_first)] }
def FnMeetsSaid : Prop := fnMeetsRow.holds Tryz.pinned (OpenSpec.ofChange fnMeetsSpec)

/-- ITS FALSE NEIGHBOUR: 'it returns false'. Refute it at one input. -/
def fnMeetsWrong : ChangeSpec := { name := "fnMeets", fn := fun _ => fun
  | [d] => { results := [.lit (.bool false)], args := [d] }
  | _ => none }
def FnMeetsWrongFalsely : Prop := fnMeetsRow.holds Tryz.pinned (OpenSpec.ofChange fnMeetsWrong)

/-- 'laws.FnMeetsTurn': WHATEVER THE INPUT: true; the input reads as it did. -/
def fnMeetsTurnSpec : ChangeSpec := { name := "fnMeetsTurn", fn := fun _ => fun
  | [d] => { results := [.lit (.bool true)], args := [d] }
  | _ => none }
def fnMeetsTurnRow : OpenClaim := { program := "ytjkimadnopeakaagreatdoor", sum := "29bc961eded36fdcd7a3340105648905eae2cc65945b0d4fb02826c2579fd2e6", func := "loop.example/spandrel/laws.FnMeetsTurn", spec := "fnMeetsTurn", inPlace := ["internal/bytealg.CountString", "internal/bytealg.IndexByteString", "internal/bytealg.IndexString"], unfollowed := true, recurses := true, named := ["unicode/utf8.first", "unicode/utf8.acceptRanges", "internal/bytealg.MaxLen"], apart := false, laid := [("unicode/utf8.acceptRanges", laid_unicode_utf8_acceptRanges), ("unicode/utf8.first", laid_unicode_utf8_first)] }
def FnMeetsTurnSaid : Prop := fnMeetsTurnRow.holds Tryz.pinned (OpenSpec.ofChange fnMeetsTurnSpec)

/-- ITS FALSE NEIGHBOUR: 'it returns false'. Refute it at one input. -/
def fnMeetsTurnWrong : ChangeSpec := { name := "fnMeetsTurn", fn := fun _ => fun
  | [d] => { results := [.lit (.bool false)], args := [d] }
  | _ => none }
def FnMeetsTurnWrongFalsely : Prop := fnMeetsTurnRow.holds Tryz.pinned (OpenSpec.ofChange fnMeetsTurnWrong)

/-- 'laws.FnMeetsWord': WHATEVER THE INPUT: true; the input reads as it did. -/
def fnMeetsWordSpec : ChangeSpec := { name := "fnMeetsWord", fn := fun _ => fun
  | [d] => { results := [.lit (.bool true)], args := [d] }
  | _ => none }
def fnMeetsWordRow : OpenClaim := { program := "ytjkimadnopeakaagreatdoor", sum := "29bc961eded36fdcd7a3340105648905eae2cc65945b0d4fb02826c2579fd2e6", func := "loop.example/spandrel/laws.FnMeetsWord", spec := "fnMeetsWord", inPlace := ["internal/bytealg.CountString", "internal/bytealg.IndexByteString", "internal/bytealg.IndexString"], unfollowed := true, recurses := true, named := ["unicode/utf8.first", "unicode/utf8.acceptRanges", "internal/bytealg.MaxLen"], apart := false, laid := [("unicode/utf8.acceptRanges", laid_unicode_utf8_acceptRanges), ("unicode/utf8.first", laid_unicode_utf8_first)] }
def FnMeetsWordSaid : Prop := fnMeetsWordRow.holds Tryz.pinned (OpenSpec.ofChange fnMeetsWordSpec)

/-- ITS FALSE NEIGHBOUR: 'it returns false'. Refute it at one input. -/
def fnMeetsWordWrong : ChangeSpec := { name := "fnMeetsWord", fn := fun _ => fun
  | [d] => { results := [.lit (.bool false)], args := [d] }
  | _ => none }
def FnMeetsWordWrongFalsely : Prop := fnMeetsWordRow.holds Tryz.pinned (OpenSpec.ofChange fnMeetsWordWrong)

/-- 'laws.FnDocMeets': WHATEVER THE INPUT: true; the input reads as it did. -/
def fnDocMeetsSpec : ChangeSpec := { name := "fnDocMeets", fn := fun _ => fun
  | [d] => { results := [.lit (.bool true)], args := [d] }
  | _ => none }
def fnDocMeetsRow : OpenClaim := { program := "ytjkimadnopeakaagreatdoor", sum := "29bc961eded36fdcd7a3340105648905eae2cc65945b0d4fb02826c2579fd2e6", func := "loop.example/spandrel/laws.FnDocMeets", spec := "fnDocMeets", inPlace := ["internal/bytealg.CountString", "internal/bytealg.IndexByteString", "internal/bytealg.IndexString"], unfollowed := true, recurses := true, named := ["unicode/utf8.first", "unicode/utf8.acceptRanges", "internal/bytealg.MaxLen"], apart := false, laid := [("unicode/utf8.acceptRanges", laid_unicode_utf8_acceptRanges), ("unicode/utf8.first", laid_unicode_utf8_first)] }
def FnDocMeetsSaid : Prop := fnDocMeetsRow.holds Tryz.pinned (OpenSpec.ofChange fnDocMeetsSpec)

/-- ITS FALSE NEIGHBOUR: 'it returns false'. Refute it at one input. -/
def fnDocMeetsWrong : ChangeSpec := { name := "fnDocMeets", fn := fun _ => fun
  | [d] => { results := [.lit (.bool false)], args := [d] }
  | _ => none }
def FnDocMeetsWrongFalsely : Prop := fnDocMeetsRow.holds Tryz.pinned (OpenSpec.ofChange fnDocMeetsWrong)

/-- 'laws.FnDocLess': WHATEVER THE INPUT: true; the input reads as it did. -/
def fnDocLessSpec : ChangeSpec := { name := "fnDocLess", fn := fun _ => fun
  | [d] => { results := [.lit (.bool true)], args := [d] }
  | _ => none }
def fnDocLessRow : OpenClaim := { program := "ytjkimadnopeakaagreatdoor", sum := "29bc961eded36fdcd7a3340105648905eae2cc65945b0d4fb02826c2579fd2e6", func := "loop.example/spandrel/laws.FnDocLess", spec := "fnDocLess", inPlace := ["internal/bytealg.CountString", "internal/bytealg.IndexByteString", "internal/bytealg.IndexString"], unfollowed := true, recurses := true, named := ["unicode/utf8.first", "unicode/utf8.acceptRanges", "internal/bytealg.MaxLen"], apart := false, laid := [("unicode/utf8.acceptRanges", laid_unicode_utf8_acceptRanges), ("unicode/utf8.first", laid_unicode_utf8_first)] }
def FnDocLessSaid : Prop := fnDocLessRow.holds Tryz.pinned (OpenSpec.ofChange fnDocLessSpec)

/-- ITS FALSE NEIGHBOUR: 'it returns false'. Refute it at one input. -/
def fnDocLessWrong : ChangeSpec := { name := "fnDocLess", fn := fun _ => fun
  | [d] => { results := [.lit (.bool false)], args := [d] }
  | _ => none }
def FnDocLessWrongFalsely : Prop := fnDocLessRow.holds Tryz.pinned (OpenSpec.ofChange fnDocLessWrong)

/-- 'laws.FnQueryTwice': WHATEVER THE INPUT: true; the input reads as it did. -/
def fnQueryTwiceSpec : ChangeSpec := { name := "fnQueryTwice", fn := fun _ => fun
  | [d] => { results := [.lit (.bool true)], args := [d] }
  | _ => none }
def fnQueryTwiceRow : OpenClaim := { program := "ytjkimadnopeakaagreatdoor", sum := "29bc961eded36fdcd7a3340105648905eae2cc65945b0d4fb02826c2579fd2e6", func := "loop.example/spandrel/laws.FnQueryTwice", spec := "fnQueryTwice", inPlace := ["internal/bytealg.CountString", "internal/bytealg.IndexByteString", "internal/bytealg.IndexString"], unfollowed := true, recurses := true, named := ["unicode/utf8.first", "unicode/utf8.acceptRanges", "internal/bytealg.MaxLen"], apart := false, laid := [("unicode/utf8.acceptRanges", laid_unicode_utf8_acceptRanges), ("unicode/utf8.first", laid_unicode_utf8_first)] }
def FnQueryTwiceSaid : Prop := fnQueryTwiceRow.holds Tryz.pinned (OpenSpec.ofChange fnQueryTwiceSpec)

/-- ITS FALSE NEIGHBOUR: 'it returns false'. Refute it at one input. -/
def fnQueryTwiceWrong : ChangeSpec := { name := "fnQueryTwice", fn := fun _ => fun
  | [d] => { results := [.lit (.bool false)], args := [d] }
  | _ => none }
def FnQueryTwiceWrongFalsely : Prop := fnQueryTwiceRow.holds Tryz.pinned (OpenSpec.ofChange fnQueryTwiceWrong)

/- THE SECOND FORM. 'bulk': how many values and letters a reading holds, each counted each time it is reached (what is shared counts as often as it is met; a slice's spare places count too). A statement '..UptoSaid' is the law's where the arguments, and the package variables that the reading takes, are together of bulk at most 1048576: NARROWER than '..Said'. Prove '..Said' where nothing that the law and all that it calls make is longer than what came in: it says more and counts as full. Else prove '..UptoSaid'. A law counts once. -/
mutual
def uptoBulk {H : Type} : DataW H → Nat
  | .lit (.string bytes) => bytes.length + 1
  | .lit _ => 1
  | .nil => 1
  | .ptr d => uptoBulk d + 1
  | .slice elems spare => uptoBulkAll elems + uptoBulkAll spare + 1
  | .agg parts => uptoBulkAll parts + 1
  | .iface _ d => uptoBulk d + 1
  | .map entries => uptoBulkEntries entries + 1
  | .held _ => 1
def uptoBulkAll {H : Type} : List (DataW H) → Nat
  | [] => 0
  | d :: r => uptoBulk d + uptoBulkAll r
def uptoBulkEntries {H : Type} : List (Lit × DataW H) → Nat
  | [] => 0
  | x :: r => uptoBulkEntry x + uptoBulkEntries r
def uptoBulkEntry {H : Type} : Lit × DataW H → Nat
  | (.string bytes, d) => bytes.length + uptoBulk d + 1
  | (_, d) => uptoBulk d + 1
 end
def uptoSmall : (H : Type) → List (DataW H) → Bool := fun _ ds => decide (uptoBulkAll ds ≤ 1048576)
def OpenSpec.upto (s : _root_.Go.ChangeSpec) : _root_.Go.OpenSpec := { _root_.Go.OpenSpec.ofChange s with cond := some uptoSmall }

/-- 'laws.FnExactMeets', WHERE WHAT IT READS IS OF BULK AT MOST 1048576: true; the input reads as it did. -/
def fnExactMeetsUptoRow : OpenClaim := { program := "ytjkimadnopeakaagreatdoor", sum := "29bc961eded36fdcd7a3340105648905eae2cc65945b0d4fb02826c2579fd2e6", func := "loop.example/spandrel/laws.FnExactMeets", spec := "fnExactMeets", inPlace := ["internal/bytealg.CountString", "internal/bytealg.IndexByteString", "internal/bytealg.IndexString"], unfollowed := true, recurses := true, named := ["unicode/utf8.first", "unicode/utf8.acceptRanges", "internal/bytealg.MaxLen"], loops := true, apart := false, laid := [("unicode/utf8.acceptRanges", laid_unicode_utf8_acceptRanges), ("unicode/utf8.first", laid_unicode_utf8_first)], narrowed := true }
def FnExactMeetsUptoSaid : Prop := fnExactMeetsUptoRow.holds Tryz.pinned (OpenSpec.upto fnExactMeetsSpec)

/-- 'laws.FnMeets', WHERE WHAT IT READS IS OF BULK AT MOST 1048576: true; the input reads as it did. -/
def fnMeetsUptoRow : OpenClaim := { program := "ytjkimadnopeakaagreatdoor", sum := "29bc961eded36fdcd7a3340105648905eae2cc65945b0d4fb02826c2579fd2e6", func := "loop.example/spandrel/laws.FnMeets", spec := "fnMeets", inPlace := ["internal/bytealg.CountString", "internal/bytealg.IndexByteString", "internal/bytealg.IndexString"], unfollowed := true, recurses := true, named := ["unicode/utf8.first", "unicode/utf8.acceptRanges", "internal/bytealg.MaxLen"], apart := false, laid := [("unicode/utf8.acceptRanges", laid_unicode_utf8_acceptRanges), ("unicode/utf8.first", laid_unicode_utf8_first)], narrowed := true }
def FnMeetsUptoSaid : Prop := fnMeetsUptoRow.holds Tryz.pinned (OpenSpec.upto fnMeetsSpec)

/-- 'laws.FnMeetsTurn', WHERE WHAT IT READS IS OF BULK AT MOST 1048576: true; the input reads as it did. -/
def fnMeetsTurnUptoRow : OpenClaim := { program := "ytjkimadnopeakaagreatdoor", sum := "29bc961eded36fdcd7a3340105648905eae2cc65945b0d4fb02826c2579fd2e6", func := "loop.example/spandrel/laws.FnMeetsTurn", spec := "fnMeetsTurn", inPlace := ["internal/bytealg.CountString", "internal/bytealg.IndexByteString", "internal/bytealg.IndexString"], unfollowed := true, recurses := true, named := ["unicode/utf8.first", "unicode/utf8.acceptRanges", "internal/bytealg.MaxLen"], apart := false, laid := [("unicode/utf8.acceptRanges", laid_unicode_utf8_acceptRanges), ("unicode/utf8.first", laid_unicode_utf8_first)], narrowed := true }
def FnMeetsTurnUptoSaid : Prop := fnMeetsTurnUptoRow.holds Tryz.pinned (OpenSpec.upto fnMeetsTurnSpec)

/-- 'laws.FnMeetsWord', WHERE WHAT IT READS IS OF BULK AT MOST 1048576: true; the input reads as it did. -/
def fnMeetsWordUptoRow : OpenClaim := { program := "ytjkimadnopeakaagreatdoor", sum := "29bc961eded36fdcd7a3340105648905eae2cc65945b0d4fb02826c2579fd2e6", func := "loop.example/spandrel/laws.FnMeetsWord", spec := "fnMeetsWord", inPlace := ["internal/bytealg.CountString", "internal/bytealg.IndexByteString", "internal/bytealg.IndexString"], unfollowed := true, recurses := true, named := ["unicode/utf8.first", "unicode/utf8.acceptRanges", "internal/bytealg.MaxLen"], apart := false, laid := [("unicode/utf8.acceptRanges", laid_unicode_utf8_acceptRanges), ("unicode/utf8.first", laid_unicode_utf8_first)], narrowed := true }
def FnMeetsWordUptoSaid : Prop := fnMeetsWordUptoRow.holds Tryz.pinned (OpenSpec.upto fnMeetsWordSpec)

/-- 'laws.FnDocMeets', WHERE WHAT IT READS IS OF BULK AT MOST 1048576: true; the input reads as it did. -/
def fnDocMeetsUptoRow : OpenClaim := { program := "ytjkimadnopeakaagreatdoor", sum := "29bc961eded36fdcd7a3340105648905eae2cc65945b0d4fb02826c2579fd2e6", func := "loop.example/spandrel/laws.FnDocMeets", spec := "fnDocMeets", inPlace := ["internal/bytealg.CountString", "internal/bytealg.IndexByteString", "internal/bytealg.IndexString"], unfollowed := true, recurses := true, named := ["unicode/utf8.first", "unicode/utf8.acceptRanges", "internal/bytealg.MaxLen"], apart := false, laid := [("unicode/utf8.acceptRanges", laid_unicode_utf8_acceptRanges), ("unicode/utf8.first", laid_unicode_utf8_first)], narrowed := true }
def FnDocMeetsUptoSaid : Prop := fnDocMeetsUptoRow.holds Tryz.pinned (OpenSpec.upto fnDocMeetsSpec)

/-- 'laws.FnDocLess', WHERE WHAT IT READS IS OF BULK AT MOST 1048576: true; the input reads as it did. -/
def fnDocLessUptoRow : OpenClaim := { program := "ytjkimadnopeakaagreatdoor", sum := "29bc961eded36fdcd7a3340105648905eae2cc65945b0d4fb02826c2579fd2e6", func := "loop.example/spandrel/laws.FnDocLess", spec := "fnDocLess", inPlace := ["internal/bytealg.CountString", "internal/bytealg.IndexByteString", "internal/bytealg.IndexString"], unfollowed := true, recurses := true, named := ["unicode/utf8.first", "unicode/utf8.acceptRanges", "internal/bytealg.MaxLen"], apart := false, laid := [("unicode/utf8.acceptRanges", laid_unicode_utf8_acceptRanges), ("unicode/utf8.first", laid_unicode_utf8_first)], narrowed := true }
def FnDocLessUptoSaid : Prop := fnDocLessUptoRow.holds Tryz.pinned (OpenSpec.upto fnDocLessSpec)

/-- 'laws.FnQueryTwice', WHERE WHAT IT READS IS OF BULK AT MOST 1048576: true; the input reads as it did. -/
def fnQueryTwiceUptoRow : OpenClaim := { program := "ytjkimadnopeakaagreatdoor", sum := "29bc961eded36fdcd7a3340105648905eae2cc65945b0d4fb02826c2579fd2e6", func := "loop.example/spandrel/laws.FnQueryTwice", spec := "fnQueryTwice", inPlace := ["internal/bytealg.CountString", "internal/bytealg.IndexByteString", "internal/bytealg.IndexString"], unfollowed := true, recurses := true, named := ["unicode/utf8.first", "unicode/utf8.acceptRanges", "internal/bytealg.MaxLen"], apart := false, laid := [("unicode/utf8.acceptRanges", laid_unicode_utf8_acceptRanges), ("unicode/utf8.first", laid_unicode_utf8_first)], narrowed := true }
def FnQueryTwiceUptoSaid : Prop := fnQueryTwiceUptoRow.holds Tryz.pinned (OpenSpec.upto fnQueryTwiceSpec)

end Rows
end Go.Proofs.YtjkimadnopeakaaGreatDoor
