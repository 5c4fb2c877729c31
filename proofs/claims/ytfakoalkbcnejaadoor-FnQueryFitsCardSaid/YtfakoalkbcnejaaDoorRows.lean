/-
  NARROWER THAN 'FOR EVERY INPUT', by the rows' own cells (each row's printed sentence says how): FnExactQueryOk: loops, laid · FnExactQueryFits: loops, laid · FnExactQueryTerms: loops, laid · FnExactQueryTurn: loops, laid · FnQueryFits: laid · FnQueryTerms: laid.
  DERIVED. THE GIVEN ROWS OF THIS SEAT. 6 by the template 'for every input the law returns true; each argument reads behind the call as it read before'; 0 by the template 'total and deterministic' (their statements: YtfakoalkbcnejaaDoorTotals.lean).
  GIVEN WITH THE SEED: the statements are not yours to turn. If you find one false, say at which input.
  Laid BY PROGRAM, IN A SANDBOX (cutbox-rows.mjs): the forced cells as the released guide's own fill.sh prints them over the translation b9ea099b47d14025… (all of the seat's roots in one cut). By AI agents, Wed Nov 11 2026. No macro, syntax, notation, axiom, sorry.
-/
import Derived.Test.YtfakoalkbcnejaaDoorChecked
import GoSem.PinnedTables
import GoSem.Claim
import GoSem.ClaimJoined
import GoSem.ClaimMapViews
import Derived.JoinedTies
import Derived.KernelRfl
namespace Go.Proofs.YtfakoalkbcnejaaDoor
/- THE CELL 'sum', in the pinned program and in every row, IS THE sha256 OF THE DUMP (.gsa) THAT YtfakoalkbcnejaaDoorProg.lean LOADS. Nothing in Lean hashes anything: it is a label: what it is worth is what the hold of that sum in a sandbox is worth. -/
noncomputable def Tryd.pinned : Pinned := { name := "ytfakoalkbcnejaadoor", sum := "b9ea099b47d1402564b1e6603728a6c8e3c281b7b5e61f00dc4304c7aa3c0c19", checked := Tryd.checked }
namespace Rows
def none {H : Type} : Left H := { results := [], args := [] }

/- WHAT THE LISTED PACKAGE-LEVEL VARIABLES READ AS WHEN THE CALL BEGINS. Each datum BY PROGRAM (the guide's laid-datum.mjs) off the statement by which the dump's own 'gosem.cut.vars' lays the variable. In a bare row this is a premise. The card (YtfakoalkbcnejaaDoorCards.lean) ties it to the program's text. -/
def laid_unicode_utf8_acceptRanges {H : Type} : DataW H := .agg [.agg [.lit (.int .u8 128), .lit (.int .u8 191)], .agg [.lit (.int .u8 160), .lit (.int .u8 191)], .agg [.lit (.int .u8 128), .lit (.int .u8 159)], .agg [.lit (.int .u8 144), .lit (.int .u8 191)], .agg [.lit (.int .u8 128), .lit (.int .u8 143)], .agg [.lit (.int .u8 0), .lit (.int .u8 0)], .agg [.lit (.int .u8 0), .lit (.int .u8 0)], .agg [.lit (.int .u8 0), .lit (.int .u8 0)], .agg [.lit (.int .u8 0), .lit (.int .u8 0)], .agg [.lit (.int .u8 0), .lit (.int .u8 0)], .agg [.lit (.int .u8 0), .lit (.int .u8 0)], .agg [.lit (.int .u8 0), .lit (.int .u8 0)], .agg [.lit (.int .u8 0), .lit (.int .u8 0)], .agg [.lit (.int .u8 0), .lit (.int .u8 0)], .agg [.lit (.int .u8 0), .lit (.int .u8 0)], .agg [.lit (.int .u8 0), .lit (.int .u8 0)]]
/-- One of Go's own tables, pinned by name: the form's constant. -/
def laid_unicode_utf8_first : DataW Unit := Go.Pinned.utf8First

/-- 'laws.FnExactQueryOk': WHATEVER THE INPUT: true; the input reads as it did. -/
def fnExactQueryOkSpec : ChangeSpec := { name := "fnExactQueryOk", fn := fun _ => fun
  | [d] => { results := [.lit (.bool true)], args := [d] }
  | _ => none }
def fnExactQueryOkRow : OpenClaim := { program := "ytfakoalkbcnejaadoor", sum := "b9ea099b47d1402564b1e6603728a6c8e3c281b7b5e61f00dc4304c7aa3c0c19", func := "loop.example/spandrel/laws.FnExactQueryOk", spec := "fnExactQueryOk", inPlace := ["internal/bytealg.CountString", "internal/bytealg.IndexByteString", "internal/bytealg.IndexString"], recurses := true, named := ["unicode/utf8.first", "unicode/utf8.acceptRanges", "internal/bytealg.MaxLen"], loops := true, apart := false, laid := [("unicode/utf8.acceptRanges", laid_unicode_utf8_acceptRanges), ("unicode/utf8.first", laid_unicode_utf8_first)] }
def FnExactQueryOkSaid : Prop := fnExactQueryOkRow.holds Tryd.pinned (OpenSpec.ofChange fnExactQueryOkSpec)

/-- ITS FALSE NEIGHBOUR: 'it returns false'. Refute it at one input. -/
def fnExactQueryOkWrong : ChangeSpec := { name := "fnExactQueryOk", fn := fun _ => fun
  | [d] => { results := [.lit (.bool false)], args := [d] }
  | _ => none }
def FnExactQueryOkWrongFalsely : Prop := fnExactQueryOkRow.holds Tryd.pinned (OpenSpec.ofChange fnExactQueryOkWrong)

/-- 'laws.FnExactQueryFits': WHATEVER THE INPUT: true; the input reads as it did. -/
def fnExactQueryFitsSpec : ChangeSpec := { name := "fnExactQueryFits", fn := fun _ => fun
  | [d1, d2] => { results := [.lit (.bool true)], args := [d1, d2] }
  | _ => none }
def fnExactQueryFitsRow : OpenClaim := { program := "ytfakoalkbcnejaadoor", sum := "b9ea099b47d1402564b1e6603728a6c8e3c281b7b5e61f00dc4304c7aa3c0c19", func := "loop.example/spandrel/laws.FnExactQueryFits", spec := "fnExactQueryFits", inPlace := ["internal/bytealg.CountString", "internal/bytealg.IndexByteString", "internal/bytealg.IndexString"], recurses := true, named := ["unicode/utf8.first", "unicode/utf8.acceptRanges", "internal/bytealg.MaxLen"], loops := true, apart := false, laid := [("unicode/utf8.acceptRanges", laid_unicode_utf8_acceptRanges), ("unicode/utf8.first", laid_unicode_utf8_first)] }
def FnExactQueryFitsSaid : Prop := fnExactQueryFitsRow.holds Tryd.pinned (OpenSpec.ofChange fnExactQueryFitsSpec)

/-- ITS FALSE NEIGHBOUR: 'it returns false'. Refute it at one input. -/
def fnExactQueryFitsWrong : ChangeSpec := { name := "fnExactQueryFits", fn := fun _ => fun
  | [d1, d2] => { results := [.lit (.bool false)], args := [d1, d2] }
  | _ => none }
def FnExactQueryFitsWrongFalsely : Prop := fnExactQueryFitsRow.holds Tryd.pinned (OpenSpec.ofChange fnExactQueryFitsWrong)

/-- 'laws.FnExactQueryTerms': WHATEVER THE INPUT: true; the input reads as it did. -/
def fnExactQueryTermsSpec : ChangeSpec := { name := "fnExactQueryTerms", fn := fun _ => fun
  | [d] => { results := [.lit (.bool true)], args := [d] }
  | _ => none }
def fnExactQueryTermsRow : OpenClaim := { program := "ytfakoalkbcnejaadoor", sum := "b9ea099b47d1402564b1e6603728a6c8e3c281b7b5e61f00dc4304c7aa3c0c19", func := "loop.example/spandrel/laws.FnExactQueryTerms", spec := "fnExactQueryTerms", inPlace := ["internal/bytealg.CountString", "internal/bytealg.IndexByteString", "internal/bytealg.IndexString"], unfollowed := true, recurses := true, named := ["unicode/utf8.first", "unicode/utf8.acceptRanges", "internal/bytealg.MaxLen"], loops := true, apart := false, laid := [("unicode/utf8.acceptRanges", laid_unicode_utf8_acceptRanges), ("unicode/utf8.first", laid_unicode_utf8_first)] }
def FnExactQueryTermsSaid : Prop := fnExactQueryTermsRow.holds Tryd.pinned (OpenSpec.ofChange fnExactQueryTermsSpec)

/-- ITS FALSE NEIGHBOUR: 'it returns false'. Refute it at one input. -/
def fnExactQueryTermsWrong : ChangeSpec := { name := "fnExactQueryTerms", fn := fun _ => fun
  | [d] => { results := [.lit (.bool false)], args := [d] }
  | _ => none }
def FnExactQueryTermsWrongFalsely : Prop := fnExactQueryTermsRow.holds Tryd.pinned (OpenSpec.ofChange fnExactQueryTermsWrong)

/-- 'laws.FnExactQueryTurn': WHATEVER THE INPUT: true; the input reads as it did. -/
def fnExactQueryTurnSpec : ChangeSpec := { name := "fnExactQueryTurn", fn := fun _ => fun
  | [d] => { results := [.lit (.bool true)], args := [d] }
  | _ => none }
def fnExactQueryTurnRow : OpenClaim := { program := "ytfakoalkbcnejaadoor", sum := "b9ea099b47d1402564b1e6603728a6c8e3c281b7b5e61f00dc4304c7aa3c0c19", func := "loop.example/spandrel/laws.FnExactQueryTurn", spec := "fnExactQueryTurn", inPlace := ["internal/bytealg.CountString", "internal/bytealg.IndexByteString", "internal/bytealg.IndexString"], unfollowed := true, recurses := true, named := ["unicode/utf8.first", "unicode/utf8.acceptRanges", "internal/bytealg.MaxLen"], loops := true, apart := false, laid := [("unicode/utf8.acceptRanges", laid_unicode_utf8_acceptRanges), ("unicode/utf8.first", laid_unicode_utf8_first)] }
def FnExactQueryTurnSaid : Prop := fnExactQueryTurnRow.holds Tryd.pinned (OpenSpec.ofChange fnExactQueryTurnSpec)

/-- ITS FALSE NEIGHBOUR: 'it returns false'. Refute it at one input. -/
def fnExactQueryTurnWrong : ChangeSpec := { name := "fnExactQueryTurn", fn := fun _ => fun
  | [d] => { results := [.lit (.bool false)], args := [d] }
  | _ => none }
def FnExactQueryTurnWrongFalsely : Prop := fnExactQueryTurnRow.holds Tryd.pinned (OpenSpec.ofChange fnExactQueryTurnWrong)

/-- 'laws.FnQueryFits': WHATEVER THE INPUT: true; the input reads as it did. -/
def fnQueryFitsSpec : ChangeSpec := { name := "fnQueryFits", fn := fun _ => fun
  | [d] => { results := [.lit (.bool true)], args := [d] }
  | _ => none }
def fnQueryFitsRow : OpenClaim := { program := "ytfakoalkbcnejaadoor", sum := "b9ea099b47d1402564b1e6603728a6c8e3c281b7b5e61f00dc4304c7aa3c0c19", func := "loop.example/spandrel/laws.FnQueryFits", spec := "fnQueryFits", inPlace := ["internal/bytealg.CountString", "internal/bytealg.IndexByteString", "internal/bytealg.IndexString"], recurses := true, named := ["unicode/utf8.first", "unicode/utf8.acceptRanges", "internal/bytealg.MaxLen"], apart := false, laid := [("unicode/utf8.acceptRanges", laid_unicode_utf8_acceptRanges), ("unicode/utf8.first", laid_unicode_utf8_first)] }
def FnQueryFitsSaid : Prop := fnQueryFitsRow.holds Tryd.pinned (OpenSpec.ofChange fnQueryFitsSpec)

/-- ITS FALSE NEIGHBOUR: 'it returns false'. Refute it at one input. -/
def fnQueryFitsWrong : ChangeSpec := { name := "fnQueryFits", fn := fun _ => fun
  | [d] => { results := [.lit (.bool false)], args := [d] }
  | _ => none }
def FnQueryFitsWrongFalsely : Prop := fnQueryFitsRow.holds Tryd.pinned (OpenSpec.ofChange fnQueryFitsWrong)

/-- 'laws.FnQueryTerms': WHATEVER THE INPUT: true; the input reads as it did. -/
def fnQueryTermsSpec : ChangeSpec := { name := "fnQueryTerms", fn := fun _ => fun
  | [d] => { results := [.lit (.bool true)], args := [d] }
  | _ => none }
def fnQueryTermsRow : OpenClaim := { program := "ytfakoalkbcnejaadoor", sum := "b9ea099b47d1402564b1e6603728a6c8e3c281b7b5e61f00dc4304c7aa3c0c19", func := "loop.example/spandrel/laws.FnQueryTerms", spec := "fnQueryTerms", inPlace := ["internal/bytealg.CountString", "internal/bytealg.IndexByteString", "internal/bytealg.IndexString"], unfollowed := true, recurses := true, named := ["unicode/utf8.first", "unicode/utf8.acceptRanges", "internal/bytealg.MaxLen"], apart := false, laid := [("unicode/utf8.acceptRanges", laid_unicode_utf8_acceptRanges), ("unicode/utf8.first", laid_unicode_utf8_first)] }
def FnQueryTermsSaid : Prop := fnQueryTermsRow.holds Tryd.pinned (OpenSpec.ofChange fnQueryTermsSpec)

/-- ITS FALSE NEIGHBOUR: 'it returns false'. Refute it at one input. -/
def fnQueryTermsWrong : ChangeSpec := { name := "fnQueryTerms", fn := fun _ => fun
  | [d] => { results := [.lit (.bool false)], args := [d] }
  | _ => none }
def FnQueryTermsWrongFalsely : Prop := fnQueryTermsRow.holds Tryd.pinned (OpenSpec.ofChange fnQueryTermsWrong)

/- THE SECOND FORM. 'bulk': how many values and letters a reading holds, each counted each time it is reached (what is shared counts as often as it is met; a slice's spare places count too). A statement '..UptoSaid' is the law's where the arguments, and the package variables that the reading takes, are together of bulk at most 1048576: NARROWER than '..Said'. Prove '..Said' where nothing that the law and all that it calls make is longer than what came in: it says more and counts as full. Else prove '..UptoSaid'. A law counts once. -/
mutual
def uptoBulk {H : Type} : DataW H → Nat
  | .lit (.string bytes) => bytes.length + 1
  | .lit _ => 1
  | .nil => 1
  | .ptr d => uptoBulk d + 1
  | .slice elems spare => uptoBulkAll elems + uptoBulkAll spare + 1
  | .agg parts => uptoBulkAll parts + 1
  | .iface _ d => uptoBulk d + 1
  | .map entries => uptoBulkEntries entries + 1
  | .held _ => 1
def uptoBulkAll {H : Type} : List (DataW H) → Nat
  | [] => 0
  | d :: r => uptoBulk d + uptoBulkAll r
def uptoBulkEntries {H : Type} : List (Lit × DataW H) → Nat
  | [] => 0
  | x :: r => uptoBulkEntry x + uptoBulkEntries r
def uptoBulkEntry {H : Type} : Lit × DataW H → Nat
  | (.string bytes, d) => bytes.length + uptoBulk d + 1
  | (_, d) => uptoBulk d + 1
 end
def uptoSmall : (H : Type) → List (DataW H) → Bool := fun _ ds => decide (uptoBulkAll ds ≤ 1048576)
def OpenSpec.upto (s : _root_.Go.ChangeSpec) : _root_.Go.OpenSpec := { _root_.Go.OpenSpec.ofChange s with cond := some uptoSmall }

/-- 'laws.FnExactQueryOk', WHERE WHAT IT READS IS OF BULK AT MOST 1048576: true; the input reads as it did. -/
def fnExactQueryOkUptoRow : OpenClaim := { program := "ytfakoalkbcnejaadoor", sum := "b9ea099b47d1402564b1e6603728a6c8e3c281b7b5e61f00dc4304c7aa3c0c19", func := "loop.example/spandrel/laws.FnExactQueryOk", spec := "fnExactQueryOk", inPlace := ["internal/bytealg.CountString", "internal/bytealg.IndexByteString", "internal/bytealg.IndexString"], recurses := true, named := ["unicode/utf8.first", "unicode/utf8.acceptRanges", "internal/bytealg.MaxLen"], loops := true, apart := false, laid := [("unicode/utf8.acceptRanges", laid_unicode_utf8_acceptRanges), ("unicode/utf8.first", laid_unicode_utf8_first)], narrowed := true }
def FnExactQueryOkUptoSaid : Prop := fnExactQueryOkUptoRow.holds Tryd.pinned (OpenSpec.upto fnExactQueryOkSpec)

/-- 'laws.FnExactQueryFits', WHERE WHAT IT READS IS OF BULK AT MOST 1048576: true; the input reads as it did. -/
def fnExactQueryFitsUptoRow : OpenClaim := { program := "ytfakoalkbcnejaadoor", sum := "b9ea099b47d1402564b1e6603728a6c8e3c281b7b5e61f00dc4304c7aa3c0c19", func := "loop.example/spandrel/laws.FnExactQueryFits", spec := "fnExactQueryFits", inPlace := ["internal/bytealg.CountString", "internal/bytealg.IndexByteString", "internal/bytealg.IndexString"], recurses := true, named := ["unicode/utf8.first", "unicode/utf8.acceptRanges", "internal/bytealg.MaxLen"], loops := true, apart := false, laid := [("unicode/utf8.acceptRanges", laid_unicode_utf8_acceptRanges), ("unicode/utf8.first", laid_unicode_utf8_first)], narrowed := true }
def FnExactQueryFitsUptoSaid : Prop := fnExactQueryFitsUptoRow.holds Tryd.pinned (OpenSpec.upto fnExactQueryFitsSpec)

/-- 'laws.FnExactQueryTerms', WHERE WHAT IT READS IS OF BULK AT MOST 1048576: true; the input reads as it did. -/
def fnExactQueryTermsUptoRow : OpenClaim := { program := "ytfakoalkbcnejaadoor", sum := "b9ea099b47d1402564b1e6603728a6c8e3c281b7b5e61f00dc4304c7aa3c0c19", func := "loop.example/spandrel/laws.FnExactQueryTerms", spec := "fnExactQueryTerms", inPlace := ["internal/bytealg.CountString", "internal/bytealg.IndexByteString", "internal/bytealg.IndexString"], unfollowed := true, recurses := true, named := ["unicode/utf8.first", "unicode/utf8.acceptRanges", "internal/bytealg.MaxLen"], loops := true, apart := false, laid := [("unicode/utf8.acceptRanges", laid_unicode_utf8_acceptRanges), ("unicode/utf8.first", laid_unicode_utf8_first)], narrowed := true }
def FnExactQueryTermsUptoSaid : Prop := fnExactQueryTermsUptoRow.holds Tryd.pinned (OpenSpec.upto fnExactQueryTermsSpec)

/-- 'laws.FnExactQueryTurn', WHERE WHAT IT READS IS OF BULK AT MOST 1048576: true; the input reads as it did. -/
def fnExactQueryTurnUptoRow : OpenClaim := { program := "ytfakoalkbcnejaadoor", sum := "b9ea099b47d1402564b1e6603728a6c8e3c281b7b5e61f00dc4304c7aa3c0c19", func := "loop.example/spandrel/laws.FnExactQueryTurn", spec := "fnExactQueryTurn", inPlace := ["internal/bytealg.CountString", "internal/bytealg.IndexByteString", "internal/bytealg.IndexString"], unfollowed := true, recurses := true, named := ["unicode/utf8.first", "unicode/utf8.acceptRanges", "internal/bytealg.MaxLen"], loops := true, apart := false, laid := [("unicode/utf8.acceptRanges", laid_unicode_utf8_acceptRanges), ("unicode/utf8.first", laid_unicode_utf8_first)], narrowed := true }
def FnExactQueryTurnUptoSaid : Prop := fnExactQueryTurnUptoRow.holds Tryd.pinned (OpenSpec.upto fnExactQueryTurnSpec)

/-- 'laws.FnQueryFits', WHERE WHAT IT READS IS OF BULK AT MOST 1048576: true; the input reads as it did. -/
def fnQueryFitsUptoRow : OpenClaim := { program := "ytfakoalkbcnejaadoor", sum := "b9ea099b47d1402564b1e6603728a6c8e3c281b7b5e61f00dc4304c7aa3c0c19", func := "loop.example/spandrel/laws.FnQueryFits", spec := "fnQueryFits", inPlace := ["internal/bytealg.CountString", "internal/bytealg.IndexByteString", "internal/bytealg.IndexString"], recurses := true, named := ["unicode/utf8.first", "unicode/utf8.acceptRanges", "internal/bytealg.MaxLen"], apart := false, laid := [("unicode/utf8.acceptRanges", laid_unicode_utf8_acceptRanges), ("unicode/utf8.first", laid_unicode_utf8_first)], narrowed := true }
def FnQueryFitsUptoSaid : Prop := fnQueryFitsUptoRow.holds Tryd.pinned (OpenSpec.upto fnQueryFitsSpec)

/-- 'laws.FnQueryTerms', WHERE WHAT IT READS IS OF BULK AT MOST 1048576: true; the input reads as it did. -/
def fnQueryTermsUptoRow : OpenClaim := { program := "ytfakoalkbcnejaadoor", sum := "b9ea099b47d1402564b1e6603728a6c8e3c281b7b5e61f00dc4304c7aa3c0c19", func := "loop.example/spandrel/laws.FnQueryTerms", spec := "fnQueryTerms", inPlace := ["internal/bytealg.CountString", "internal/bytealg.IndexByteString", "internal/bytealg.IndexString"], unfollowed := true, recurses := true, named := ["unicode/utf8.first", "unicode/utf8.acceptRanges", "internal/bytealg.MaxLen"], apart := false, laid := [("unicode/utf8.acceptRanges", laid_unicode_utf8_acceptRanges), ("unicode/utf8.first", laid_unicode_utf8_first)], narrowed := true }
def FnQueryTermsUptoSaid : Prop := fnQueryTermsUptoRow.holds Tryd.pinned (OpenSpec.upto fnQueryTermsSpec)

end Rows
end Go.Proofs.YtfakoalkbcnejaaDoor
