/-
  NARROWER THAN 'FOR EVERY INPUT', by the rows' own cells (each row's printed sentence says how): FnFields: laid · FnDoc: laid · FnDocNum: laid · FnDocTags: laid · FnFieldsMore: laid · FnExactFieldsPut: laid · FnExactFieldsGet: laid · FnExactDocNum: laid · FnExactDocGet: laid.
  DERIVED. THE GIVEN ROWS OF THIS SEAT. 9 by the template 'for every input the law returns true; each argument reads behind the call as it read before'; 0 by the template 'total and deterministic' (their statements: YtinniomeblkmeaaDoorTotals.lean).
  GIVEN WITH THE SEED: the statements are not yours to turn. If you find one false, say at which input.
  Laid BY PROGRAM, IN A SANDBOX (cutbox-rows.mjs): the forced cells as the released guide's own fill.sh prints them over the translation 94073759e628868d… (all of the seat's roots in one cut). By AI agents, Wed Nov 11 2026. No macro, syntax, notation, axiom, sorry.
-/
import Derived.Test.YtinniomeblkmeaaDoorChecked
import GoSem.PinnedTables
import GoSem.Claim
import GoSem.ClaimJoined
import GoSem.ClaimMapViews
import Derived.JoinedTies
import Derived.KernelRfl
namespace Go.Proofs.YtinniomeblkmeaaDoor
/- THE CELL 'sum', in the pinned program and in every row, IS THE sha256 OF THE DUMP (.gsa) THAT YtinniomeblkmeaaDoorProg.lean LOADS. Nothing in Lean hashes anything: it is a label: what it is worth is what the hold of that sum in a sandbox is worth. -/
noncomputable def Tryd.pinned : Pinned := { name := "ytinniomeblkmeaadoor", sum := "94073759e628868d89b0b07166414d49c3d35941293a78e065372c9ff118baff", checked := Tryd.checked }
namespace Rows
def none {H : Type} : Left H := { results := [], args := [] }

/- WHAT THE LISTED PACKAGE-LEVEL VARIABLES READ AS WHEN THE CALL BEGINS. Each datum BY PROGRAM (the guide's laid-datum.mjs) off the statement by which the dump's own 'gosem.cut.vars' lays the variable. In a bare row this is a premise. The card (YtinniomeblkmeaaDoorCards.lean) ties it to the program's text. -/
def laid_math_bits_deBruijn32tab {H : Type} : DataW H := .agg [.lit (.int .u8 0), .lit (.int .u8 1), .lit (.int .u8 28), .lit (.int .u8 2), .lit (.int .u8 29), .lit (.int .u8 14), .lit (.int .u8 24), .lit (.int .u8 3), .lit (.int .u8 30), .lit (.int .u8 22), .lit (.int .u8 20), .lit (.int .u8 15), .lit (.int .u8 25), .lit (.int .u8 17), .lit (.int .u8 4), .lit (.int .u8 8), .lit (.int .u8 31), .lit (.int .u8 27), .lit (.int .u8 13), .lit (.int .u8 23), .lit (.int .u8 21), .lit (.int .u8 19), .lit (.int .u8 16), .lit (.int .u8 7), .lit (.int .u8 26), .lit (.int .u8 12), .lit (.int .u8 18), .lit (.int .u8 6), .lit (.int .u8 11), .lit (.int .u8 5), .lit (.int .u8 10), .lit (.int .u8 9)]
def laid_math_bits_deBruijn64tab {H : Type} : DataW H := .agg [.lit (.int .u8 0), .lit (.int .u8 1), .lit (.int .u8 56), .lit (.int .u8 2), .lit (.int .u8 57), .lit (.int .u8 49), .lit (.int .u8 28), .lit (.int .u8 3), .lit (.int .u8 61), .lit (.int .u8 58), .lit (.int .u8 42), .lit (.int .u8 50), .lit (.int .u8 38), .lit (.int .u8 29), .lit (.int .u8 17), .lit (.int .u8 4), .lit (.int .u8 62), .lit (.int .u8 47), .lit (.int .u8 59), .lit (.int .u8 36), .lit (.int .u8 45), .lit (.int .u8 43), .lit (.int .u8 51), .lit (.int .u8 22), .lit (.int .u8 53), .lit (.int .u8 39), .lit (.int .u8 33), .lit (.int .u8 30), .lit (.int .u8 24), .lit (.int .u8 18), .lit (.int .u8 12), .lit (.int .u8 5), .lit (.int .u8 63), .lit (.int .u8 55), .lit (.int .u8 48), .lit (.int .u8 27), .lit (.int .u8 60), .lit (.int .u8 41), .lit (.int .u8 37), .lit (.int .u8 16), .lit (.int .u8 46), .lit (.int .u8 35), .lit (.int .u8 44), .lit (.int .u8 21), .lit (.int .u8 52), .lit (.int .u8 32), .lit (.int .u8 23), .lit (.int .u8 11), .lit (.int .u8 54), .lit (.int .u8 26), .lit (.int .u8 40), .lit (.int .u8 15), .lit (.int .u8 34), .lit (.int .u8 20), .lit (.int .u8 31), .lit (.int .u8 10), .lit (.int .u8 25), .lit (.int .u8 14), .lit (.int .u8 19), .lit (.int .u8 9), .lit (.int .u8 13), .lit (.int .u8 8), .lit (.int .u8 7), .lit (.int .u8 6)]
def laid_internal_strconv_uint64pow10 {H : Type} : DataW H := .agg [.lit (.int .u64 1), .lit (.int .u64 10), .lit (.int .u64 100), .lit (.int .u64 1000), .lit (.int .u64 10000), .lit (.int .u64 100000), .lit (.int .u64 1000000), .lit (.int .u64 10000000), .lit (.int .u64 100000000), .lit (.int .u64 1000000000), .lit (.int .u64 10000000000), .lit (.int .u64 100000000000), .lit (.int .u64 1000000000000), .lit (.int .u64 10000000000000), .lit (.int .u64 100000000000000), .lit (.int .u64 1000000000000000), .lit (.int .u64 10000000000000000), .lit (.int .u64 100000000000000000), .lit (.int .u64 1000000000000000000), .lit (.int .u64 10000000000000000000)]
def laid_unicode_utf8_acceptRanges {H : Type} : DataW H := .agg [.agg [.lit (.int .u8 128), .lit (.int .u8 191)], .agg [.lit (.int .u8 160), .lit (.int .u8 191)], .agg [.lit (.int .u8 128), .lit (.int .u8 159)], .agg [.lit (.int .u8 144), .lit (.int .u8 191)], .agg [.lit (.int .u8 128), .lit (.int .u8 143)], .agg [.lit (.int .u8 0), .lit (.int .u8 0)], .agg [.lit (.int .u8 0), .lit (.int .u8 0)], .agg [.lit (.int .u8 0), .lit (.int .u8 0)], .agg [.lit (.int .u8 0), .lit (.int .u8 0)], .agg [.lit (.int .u8 0), .lit (.int .u8 0)], .agg [.lit (.int .u8 0), .lit (.int .u8 0)], .agg [.lit (.int .u8 0), .lit (.int .u8 0)], .agg [.lit (.int .u8 0), .lit (.int .u8 0)], .agg [.lit (.int .u8 0), .lit (.int .u8 0)], .agg [.lit (.int .u8 0), .lit (.int .u8 0)], .agg [.lit (.int .u8 0), .lit (.int .u8 0)]]
/-- One of Go's own tables, pinned by name: the form's constant. -/
def laid_unicode_utf8_first : DataW Unit := Go.Pinned.utf8First

/-- 'laws.FnFields': WHATEVER THE INPUT: true; the input reads as it did. -/
def fnFieldsSpec : ChangeSpec := { name := "fnFields", fn := fun _ => fun
  | [d1, d2] => { results := [.lit (.bool true)], args := [d1, d2] }
  | _ => none }
def fnFieldsRow : OpenClaim := { program := "ytinniomeblkmeaadoor", sum := "94073759e628868d89b0b07166414d49c3d35941293a78e065372c9ff118baff", func := "loop.example/spandrel/laws.FnFields", spec := "fnFields", inPlace := ["internal/abi.NoEscape", "internal/bytealg.MakeNoZero", "internal/bytealg.CountString", "internal/bytealg.IndexByteString", "internal/bytealg.IndexString"], recurses := true, named := ["internal/strconv.uint64pow10", "math/bits.deBruijn32tab", "math/bits.deBruijn64tab", "unicode/utf8.first", "unicode/utf8.acceptRanges", "internal/bytealg.MaxLen"], apart := false, laid := [("math/bits.deBruijn32tab", laid_math_bits_deBruijn32tab), ("math/bits.deBruijn64tab", laid_math_bits_deBruijn64tab), ("internal/strconv.uint64pow10", laid_internal_strconv_uint64pow10), ("unicode/utf8.acceptRanges", laid_unicode_utf8_acceptRanges), ("unicode/utf8.first", laid_unicode_utf8_first)] }
def FnFieldsSaid : Prop := fnFieldsRow.holds Tryd.pinned (OpenSpec.ofChange fnFieldsSpec)

/-- ITS FALSE NEIGHBOUR: 'it returns false'. Refute it at one input. -/
def fnFieldsWrong : ChangeSpec := { name := "fnFields", fn := fun _ => fun
  | [d1, d2] => { results := [.lit (.bool false)], args := [d1, d2] }
  | _ => none }
def FnFieldsWrongFalsely : Prop := fnFieldsRow.holds Tryd.pinned (OpenSpec.ofChange fnFieldsWrong)

/-- 'laws.FnDoc': WHATEVER THE INPUT: true; the input reads as it did. -/
def fnDocSpec : ChangeSpec := { name := "fnDoc", fn := fun _ => fun
  | [d1, d2] => { results := [.lit (.bool true)], args := [d1, d2] }
  | _ => none }
def fnDocRow : OpenClaim := { program := "ytinniomeblkmeaadoor", sum := "94073759e628868d89b0b07166414d49c3d35941293a78e065372c9ff118baff", func := "loop.example/spandrel/laws.FnDoc", spec := "fnDoc", inPlace := ["internal/abi.NoEscape", "internal/bytealg.CountString", "internal/bytealg.IndexByteString", "internal/bytealg.IndexString"], named := ["unicode/utf8.first", "unicode/utf8.acceptRanges", "internal/bytealg.MaxLen"], apart := false, laid := [("unicode/utf8.acceptRanges", laid_unicode_utf8_acceptRanges), ("unicode/utf8.first", laid_unicode_utf8_first)] }
def FnDocSaid : Prop := fnDocRow.holds Tryd.pinned (OpenSpec.ofChange fnDocSpec)

/-- ITS FALSE NEIGHBOUR: 'it returns false'. Refute it at one input. -/
def fnDocWrong : ChangeSpec := { name := "fnDoc", fn := fun _ => fun
  | [d1, d2] => { results := [.lit (.bool false)], args := [d1, d2] }
  | _ => none }
def FnDocWrongFalsely : Prop := fnDocRow.holds Tryd.pinned (OpenSpec.ofChange fnDocWrong)

/-- 'laws.FnDocNum': WHATEVER THE INPUT: true; the input reads as it did. -/
def fnDocNumSpec : ChangeSpec := { name := "fnDocNum", fn := fun _ => fun
  | [d] => { results := [.lit (.bool true)], args := [d] }
  | _ => none }
def fnDocNumRow : OpenClaim := { program := "ytinniomeblkmeaadoor", sum := "94073759e628868d89b0b07166414d49c3d35941293a78e065372c9ff118baff", func := "loop.example/spandrel/laws.FnDocNum", spec := "fnDocNum", inPlace := ["internal/bytealg.CountString", "internal/bytealg.IndexByteString", "internal/bytealg.IndexString"], unfollowed := true, recurses := true, named := ["unicode/utf8.first", "unicode/utf8.acceptRanges", "internal/bytealg.MaxLen"], apart := false, laid := [("unicode/utf8.acceptRanges", laid_unicode_utf8_acceptRanges), ("unicode/utf8.first", laid_unicode_utf8_first)] }
def FnDocNumSaid : Prop := fnDocNumRow.holds Tryd.pinned (OpenSpec.ofChange fnDocNumSpec)

/-- ITS FALSE NEIGHBOUR: 'it returns false'. Refute it at one input. -/
def fnDocNumWrong : ChangeSpec := { name := "fnDocNum", fn := fun _ => fun
  | [d] => { results := [.lit (.bool false)], args := [d] }
  | _ => none }
def FnDocNumWrongFalsely : Prop := fnDocNumRow.holds Tryd.pinned (OpenSpec.ofChange fnDocNumWrong)

/-- 'laws.FnDocTags': WHATEVER THE INPUT: true; the input reads as it did. -/
def fnDocTagsSpec : ChangeSpec := { name := "fnDocTags", fn := fun _ => fun
  | [d] => { results := [.lit (.bool true)], args := [d] }
  | _ => none }
def fnDocTagsRow : OpenClaim := { program := "ytinniomeblkmeaadoor", sum := "94073759e628868d89b0b07166414d49c3d35941293a78e065372c9ff118baff", func := "loop.example/spandrel/laws.FnDocTags", spec := "fnDocTags", inPlace := ["internal/bytealg.CountString", "internal/bytealg.IndexByteString", "internal/bytealg.IndexString"], unfollowed := true, recurses := true, named := ["unicode/utf8.first", "unicode/utf8.acceptRanges", "internal/bytealg.MaxLen"], apart := false, laid := [("unicode/utf8.acceptRanges", laid_unicode_utf8_acceptRanges), ("unicode/utf8.first", laid_unicode_utf8_first)] }
def FnDocTagsSaid : Prop := fnDocTagsRow.holds Tryd.pinned (OpenSpec.ofChange fnDocTagsSpec)

/-- ITS FALSE NEIGHBOUR: 'it returns false'. Refute it at one input. -/
def fnDocTagsWrong : ChangeSpec := { name := "fnDocTags", fn := fun _ => fun
  | [d] => { results := [.lit (.bool false)], args := [d] }
  | _ => none }
def FnDocTagsWrongFalsely : Prop := fnDocTagsRow.holds Tryd.pinned (OpenSpec.ofChange fnDocTagsWrong)

/-- 'laws.FnFieldsMore': WHATEVER THE INPUT: true; the input reads as it did. -/
def fnFieldsMoreSpec : ChangeSpec := { name := "fnFieldsMore", fn := fun _ => fun
  | [d] => { results := [.lit (.bool true)], args := [d] }
  | _ => none }
def fnFieldsMoreRow : OpenClaim := { program := "ytinniomeblkmeaadoor", sum := "94073759e628868d89b0b07166414d49c3d35941293a78e065372c9ff118baff", func := "loop.example/spandrel/laws.FnFieldsMore", spec := "fnFieldsMore", inPlace := ["internal/abi.NoEscape", "internal/bytealg.MakeNoZero"], named := ["internal/strconv.uint64pow10", "math/bits.deBruijn32tab", "math/bits.deBruijn64tab"], apart := false, laid := [("math/bits.deBruijn32tab", laid_math_bits_deBruijn32tab), ("math/bits.deBruijn64tab", laid_math_bits_deBruijn64tab), ("internal/strconv.uint64pow10", laid_internal_strconv_uint64pow10)] }
def FnFieldsMoreSaid : Prop := fnFieldsMoreRow.holds Tryd.pinned (OpenSpec.ofChange fnFieldsMoreSpec)

/-- ITS FALSE NEIGHBOUR: 'it returns false'. Refute it at one input. -/
def fnFieldsMoreWrong : ChangeSpec := { name := "fnFieldsMore", fn := fun _ => fun
  | [d] => { results := [.lit (.bool false)], args := [d] }
  | _ => none }
def FnFieldsMoreWrongFalsely : Prop := fnFieldsMoreRow.holds Tryd.pinned (OpenSpec.ofChange fnFieldsMoreWrong)

/-- 'laws.FnExactFieldsPut': WHATEVER THE INPUT: true; the input reads as it did. -/
def fnExactFieldsPutSpec : ChangeSpec := { name := "fnExactFieldsPut", fn := fun _ => fun
  | [d] => { results := [.lit (.bool true)], args := [d] }
  | _ => none }
def fnExactFieldsPutRow : OpenClaim := { program := "ytinniomeblkmeaadoor", sum := "94073759e628868d89b0b07166414d49c3d35941293a78e065372c9ff118baff", func := "loop.example/spandrel/laws.FnExactFieldsPut", spec := "fnExactFieldsPut", inPlace := ["internal/abi.NoEscape", "internal/bytealg.MakeNoZero"], recurses := true, named := ["internal/strconv.uint64pow10", "math/bits.deBruijn32tab", "math/bits.deBruijn64tab"], apart := false, laid := [("math/bits.deBruijn32tab", laid_math_bits_deBruijn32tab), ("math/bits.deBruijn64tab", laid_math_bits_deBruijn64tab), ("internal/strconv.uint64pow10", laid_internal_strconv_uint64pow10)] }
def FnExactFieldsPutSaid : Prop := fnExactFieldsPutRow.holds Tryd.pinned (OpenSpec.ofChange fnExactFieldsPutSpec)

/-- ITS FALSE NEIGHBOUR: 'it returns false'. Refute it at one input. -/
def fnExactFieldsPutWrong : ChangeSpec := { name := "fnExactFieldsPut", fn := fun _ => fun
  | [d] => { results := [.lit (.bool false)], args := [d] }
  | _ => none }
def FnExactFieldsPutWrongFalsely : Prop := fnExactFieldsPutRow.holds Tryd.pinned (OpenSpec.ofChange fnExactFieldsPutWrong)

/-- 'laws.FnExactFieldsGet': WHATEVER THE INPUT: true; the input reads as it did. -/
def fnExactFieldsGetSpec : ChangeSpec := { name := "fnExactFieldsGet", fn := fun _ => fun
  | [d] => { results := [.lit (.bool true)], args := [d] }
  | _ => none }
def fnExactFieldsGetRow : OpenClaim := { program := "ytinniomeblkmeaadoor", sum := "94073759e628868d89b0b07166414d49c3d35941293a78e065372c9ff118baff", func := "loop.example/spandrel/laws.FnExactFieldsGet", spec := "fnExactFieldsGet", inPlace := ["internal/bytealg.CountString", "internal/bytealg.IndexByteString", "internal/bytealg.IndexString"], recurses := true, named := ["unicode/utf8.first", "unicode/utf8.acceptRanges", "internal/bytealg.MaxLen"], apart := false, laid := [("unicode/utf8.acceptRanges", laid_unicode_utf8_acceptRanges), ("unicode/utf8.first", laid_unicode_utf8_first)] }
def FnExactFieldsGetSaid : Prop := fnExactFieldsGetRow.holds Tryd.pinned (OpenSpec.ofChange fnExactFieldsGetSpec)

/-- ITS FALSE NEIGHBOUR: 'it returns false'. Refute it at one input. -/
def fnExactFieldsGetWrong : ChangeSpec := { name := "fnExactFieldsGet", fn := fun _ => fun
  | [d] => { results := [.lit (.bool false)], args := [d] }
  | _ => none }
def FnExactFieldsGetWrongFalsely : Prop := fnExactFieldsGetRow.holds Tryd.pinned (OpenSpec.ofChange fnExactFieldsGetWrong)

/-- 'laws.FnExactDocNum': WHATEVER THE INPUT: true; the input reads as it did. -/
def fnExactDocNumSpec : ChangeSpec := { name := "fnExactDocNum", fn := fun _ => fun
  | [d1, d2, d3] => { results := [.lit (.bool true)], args := [d1, d2, d3] }
  | _ => none }
def fnExactDocNumRow : OpenClaim := { program := "ytinniomeblkmeaadoor", sum := "94073759e628868d89b0b07166414d49c3d35941293a78e065372c9ff118baff", func := "loop.example/spandrel/laws.FnExactDocNum", spec := "fnExactDocNum", inPlace := ["internal/bytealg.CountString", "internal/bytealg.IndexByteString", "internal/bytealg.IndexString"], unfollowed := true, recurses := true, named := ["unicode/utf8.first", "unicode/utf8.acceptRanges", "internal/bytealg.MaxLen"], apart := false, laid := [("unicode/utf8.acceptRanges", laid_unicode_utf8_acceptRanges), ("unicode/utf8.first", laid_unicode_utf8_first)] }
def FnExactDocNumSaid : Prop := fnExactDocNumRow.holds Tryd.pinned (OpenSpec.ofChange fnExactDocNumSpec)

/-- ITS FALSE NEIGHBOUR: 'it returns false'. Refute it at one input. -/
def fnExactDocNumWrong : ChangeSpec := { name := "fnExactDocNum", fn := fun _ => fun
  | [d1, d2, d3] => { results := [.lit (.bool false)], args := [d1, d2, d3] }
  | _ => none }
def FnExactDocNumWrongFalsely : Prop := fnExactDocNumRow.holds Tryd.pinned (OpenSpec.ofChange fnExactDocNumWrong)

/-- 'laws.FnExactDocGet': WHATEVER THE INPUT: true; the input reads as it did. -/
def fnExactDocGetSpec : ChangeSpec := { name := "fnExactDocGet", fn := fun _ => fun
  | [d] => { results := [.lit (.bool true)], args := [d] }
  | _ => none }
def fnExactDocGetRow : OpenClaim := { program := "ytinniomeblkmeaadoor", sum := "94073759e628868d89b0b07166414d49c3d35941293a78e065372c9ff118baff", func := "loop.example/spandrel/laws.FnExactDocGet", spec := "fnExactDocGet", inPlace := ["internal/bytealg.CountString", "internal/bytealg.IndexByteString", "internal/bytealg.IndexString"], named := ["unicode/utf8.first", "unicode/utf8.acceptRanges", "internal/bytealg.MaxLen"], apart := false, laid := [("unicode/utf8.acceptRanges", laid_unicode_utf8_acceptRanges), ("unicode/utf8.first", laid_unicode_utf8_first)] }
def FnExactDocGetSaid : Prop := fnExactDocGetRow.holds Tryd.pinned (OpenSpec.ofChange fnExactDocGetSpec)

/-- ITS FALSE NEIGHBOUR: 'it returns false'. Refute it at one input. -/
def fnExactDocGetWrong : ChangeSpec := { name := "fnExactDocGet", fn := fun _ => fun
  | [d] => { results := [.lit (.bool false)], args := [d] }
  | _ => none }
def FnExactDocGetWrongFalsely : Prop := fnExactDocGetRow.holds Tryd.pinned (OpenSpec.ofChange fnExactDocGetWrong)

/- THE SECOND FORM. 'bulk': how many values and letters a reading holds, each counted each time it is reached (what is shared counts as often as it is met; a slice's spare places count too). A statement '..UptoSaid' is the law's where the arguments, and the package variables that the reading takes, are together of bulk at most 1048576: NARROWER than '..Said'. Prove '..Said' where nothing that the law and all that it calls make is longer than what came in: it says more and counts as full. Else prove '..UptoSaid'. A law counts once. -/
mutual
def uptoBulk {H : Type} : DataW H → Nat
  | .lit (.string bytes) => bytes.length + 1
  | .lit _ => 1
  | .nil => 1
  | .ptr d => uptoBulk d + 1
  | .slice elems spare => uptoBulkAll elems + uptoBulkAll spare + 1
  | .agg parts => uptoBulkAll parts + 1
  | .iface _ d => uptoBulk d + 1
  | .map entries => uptoBulkEntries entries + 1
  | .held _ => 1
def uptoBulkAll {H : Type} : List (DataW H) → Nat
  | [] => 0
  | d :: r => uptoBulk d + uptoBulkAll r
def uptoBulkEntries {H : Type} : List (Lit × DataW H) → Nat
  | [] => 0
  | x :: r => uptoBulkEntry x + uptoBulkEntries r
def uptoBulkEntry {H : Type} : Lit × DataW H → Nat
  | (.string bytes, d) => bytes.length + uptoBulk d + 1
  | (_, d) => uptoBulk d + 1
 end
def uptoSmall : (H : Type) → List (DataW H) → Bool := fun _ ds => decide (uptoBulkAll ds ≤ 1048576)
def OpenSpec.upto (s : _root_.Go.ChangeSpec) : _root_.Go.OpenSpec := { _root_.Go.OpenSpec.ofChange s with cond := some uptoSmall }

/-- 'laws.FnFields', WHERE WHAT IT READS IS OF BULK AT MOST 1048576: true; the input reads as it did. -/
def fnFieldsUptoRow : OpenClaim := { program := "ytinniomeblkmeaadoor", sum := "94073759e628868d89b0b07166414d49c3d35941293a78e065372c9ff118baff", func := "loop.example/spandrel/laws.FnFields", spec := "fnFields", inPlace := ["internal/abi.NoEscape", "internal/bytealg.MakeNoZero", "internal/bytealg.CountString", "internal/bytealg.IndexByteString", "internal/bytealg.IndexString"], recurses := true, named := ["internal/strconv.uint64pow10", "math/bits.deBruijn32tab", "math/bits.deBruijn64tab", "unicode/utf8.first", "unicode/utf8.acceptRanges", "internal/bytealg.MaxLen"], apart := false, laid := [("math/bits.deBruijn32tab", laid_math_bits_deBruijn32tab), ("math/bits.deBruijn64tab", laid_math_bits_deBruijn64tab), ("internal/strconv.uint64pow10", laid_internal_strconv_uint64pow10), ("unicode/utf8.acceptRanges", laid_unicode_utf8_acceptRanges), ("unicode/utf8.first", laid_unicode_utf8_first)], narrowed := true }
def FnFieldsUptoSaid : Prop := fnFieldsUptoRow.holds Tryd.pinned (OpenSpec.upto fnFieldsSpec)

/-- 'laws.FnDoc', WHERE WHAT IT READS IS OF BULK AT MOST 1048576: true; the input reads as it did. -/
def fnDocUptoRow : OpenClaim := { program := "ytinniomeblkmeaadoor", sum := "94073759e628868d89b0b07166414d49c3d35941293a78e065372c9ff118baff", func := "loop.example/spandrel/laws.FnDoc", spec := "fnDoc", inPlace := ["internal/abi.NoEscape", "internal/bytealg.CountString", "internal/bytealg.IndexByteString", "internal/bytealg.IndexString"], named := ["unicode/utf8.first", "unicode/utf8.acceptRanges", "internal/bytealg.MaxLen"], apart := false, laid := [("unicode/utf8.acceptRanges", laid_unicode_utf8_acceptRanges), ("unicode/utf8.first", laid_unicode_utf8_first)], narrowed := true }
def FnDocUptoSaid : Prop := fnDocUptoRow.holds Tryd.pinned (OpenSpec.upto fnDocSpec)

/-- 'laws.FnDocNum', WHERE WHAT IT READS IS OF BULK AT MOST 1048576: true; the input reads as it did. -/
def fnDocNumUptoRow : OpenClaim := { program := "ytinniomeblkmeaadoor", sum := "94073759e628868d89b0b07166414d49c3d35941293a78e065372c9ff118baff", func := "loop.example/spandrel/laws.FnDocNum", spec := "fnDocNum", inPlace := ["internal/bytealg.CountString", "internal/bytealg.IndexByteString", "internal/bytealg.IndexString"], unfollowed := true, recurses := true, named := ["unicode/utf8.first", "unicode/utf8.acceptRanges", "internal/bytealg.MaxLen"], apart := false, laid := [("unicode/utf8.acceptRanges", laid_unicode_utf8_acceptRanges), ("unicode/utf8.first", laid_unicode_utf8_first)], narrowed := true }
def FnDocNumUptoSaid : Prop := fnDocNumUptoRow.holds Tryd.pinned (OpenSpec.upto fnDocNumSpec)

/-- 'laws.FnDocTags', WHERE WHAT IT READS IS OF BULK AT MOST 1048576: true; the input reads as it did. -/
def fnDocTagsUptoRow : OpenClaim := { program := "ytinniomeblkmeaadoor", sum := "94073759e628868d89b0b07166414d49c3d35941293a78e065372c9ff118baff", func := "loop.example/spandrel/laws.FnDocTags", spec := "fnDocTags", inPlace := ["internal/bytealg.CountString", "internal/bytealg.IndexByteString", "internal/bytealg.IndexString"], unfollowed := true, recurses := true, named := ["unicode/utf8.first", "unicode/utf8.acceptRanges", "internal/bytealg.MaxLen"], apart := false, laid := [("unicode/utf8.acceptRanges", laid_unicode_utf8_acceptRanges), ("unicode/utf8.first", laid_unicode_utf8_first)], narrowed := true }
def FnDocTagsUptoSaid : Prop := fnDocTagsUptoRow.holds Tryd.pinned (OpenSpec.upto fnDocTagsSpec)

/-- 'laws.FnFieldsMore', WHERE WHAT IT READS IS OF BULK AT MOST 1048576: true; the input reads as it did. -/
def fnFieldsMoreUptoRow : OpenClaim := { program := "ytinniomeblkmeaadoor", sum := "94073759e628868d89b0b07166414d49c3d35941293a78e065372c9ff118baff", func := "loop.example/spandrel/laws.FnFieldsMore", spec := "fnFieldsMore", inPlace := ["internal/abi.NoEscape", "internal/bytealg.MakeNoZero"], named := ["internal/strconv.uint64pow10", "math/bits.deBruijn32tab", "math/bits.deBruijn64tab"], apart := false, laid := [("math/bits.deBruijn32tab", laid_math_bits_deBruijn32tab), ("math/bits.deBruijn64tab", laid_math_bits_deBruijn64tab), ("internal/strconv.uint64pow10", laid_internal_strconv_uint64pow10)], narrowed := true }
def FnFieldsMoreUptoSaid : Prop := fnFieldsMoreUptoRow.holds Tryd.pinned (OpenSpec.upto fnFieldsMoreSpec)

/-- 'laws.FnExactFieldsPut', WHERE WHAT IT READS IS OF BULK AT MOST 1048576: true; the input reads as it did. -/
def fnExactFieldsPutUptoRow : OpenClaim := { program := "ytinniomeblkmeaadoor", sum := "94073759e628868d89b0b07166414d49c3d35941293a78e065372c9ff118baff", func := "loop.example/spandrel/laws.FnExactFieldsPut", spec := "fnExactFieldsPut", inPlace := ["internal/abi.NoEscape", "internal/bytealg.MakeNoZero"], recurses := true, named := ["internal/strconv.uint64pow10", "math/bits.deBruijn32tab", "math/bits.deBruijn64tab"], apart := false, laid := [("math/bits.deBruijn32tab", laid_math_bits_deBruijn32tab), ("math/bits.deBruijn64tab", laid_math_bits_deBruijn64tab), ("internal/strconv.uint64pow10", laid_internal_strconv_uint64pow10)], narrowed := true }
def FnExactFieldsPutUptoSaid : Prop := fnExactFieldsPutUptoRow.holds Tryd.pinned (OpenSpec.upto fnExactFieldsPutSpec)

/-- 'laws.FnExactFieldsGet', WHERE WHAT IT READS IS OF BULK AT MOST 1048576: true; the input reads as it did. -/
def fnExactFieldsGetUptoRow : OpenClaim := { program := "ytinniomeblkmeaadoor", sum := "94073759e628868d89b0b07166414d49c3d35941293a78e065372c9ff118baff", func := "loop.example/spandrel/laws.FnExactFieldsGet", spec := "fnExactFieldsGet", inPlace := ["internal/bytealg.CountString", "internal/bytealg.IndexByteString", "internal/bytealg.IndexString"], recurses := true, named := ["unicode/utf8.first", "unicode/utf8.acceptRanges", "internal/bytealg.MaxLen"], apart := false, laid := [("unicode/utf8.acceptRanges", laid_unicode_utf8_acceptRanges), ("unicode/utf8.first", laid_unicode_utf8_first)], narrowed := true }
def FnExactFieldsGetUptoSaid : Prop := fnExactFieldsGetUptoRow.holds Tryd.pinned (OpenSpec.upto fnExactFieldsGetSpec)

/-- 'laws.FnExactDocNum', WHERE WHAT IT READS IS OF BULK AT MOST 1048576: true; the input reads as it did. -/
def fnExactDocNumUptoRow : OpenClaim := { program := "ytinniomeblkmeaadoor", sum := "94073759e628868d89b0b07166414d49c3d35941293a78e065372c9ff118baff", func := "loop.example/spandrel/laws.FnExactDocNum", spec := "fnExactDocNum", inPlace := ["internal/bytealg.CountString", "internal/bytealg.IndexByteString", "internal/bytealg.IndexString"], unfollowed := true, recurses := true, named := ["unicode/utf8.first", "unicode/utf8.acceptRanges", "internal/bytealg.MaxLen"], apart := false, laid := [("unicode/utf8.acceptRanges", laid_unicode_utf8_acceptRanges), ("unicode/utf8.first", laid_unicode_utf8_first)], narrowed := true }
def FnExactDocNumUptoSaid : Prop := fnExactDocNumUptoRow.holds Tryd.pinned (OpenSpec.upto fnExactDocNumSpec)

/-- 'laws.FnExactDocGet', WHERE WHAT IT READS IS OF BULK AT MOST 1048576: true; the input reads as it did. -/
def fnExactDocGetUptoRow : OpenClaim := { program := "ytinniomeblkmeaadoor", sum := "94073759e628868d89b0b07166414d49c3d35941293a78e065372c9ff118baff", func := "loop.example/spandrel/laws.FnExactDocGet", spec := "fnExactDocGet", inPlace := ["internal/bytealg.CountString", "internal/bytealg.IndexByteString", "internal/bytealg.IndexString"], named := ["unicode/utf8.first", "unicode/utf8.acceptRanges", "internal/bytealg.MaxLen"], apart := false, laid := [("unicode/utf8.acceptRanges", laid_unicode_utf8_acceptRanges), ("unicode/utf8.first", laid_unicode_utf8_first)], narrowed := true }
def FnExactDocGetUptoSaid : Prop := fnExactDocGetUptoRow.holds Tryd.pinned (OpenSpec.upto fnExactDocGetSpec)

end Rows
end Go.Proofs.YtinniomeblkmeaaDoor
