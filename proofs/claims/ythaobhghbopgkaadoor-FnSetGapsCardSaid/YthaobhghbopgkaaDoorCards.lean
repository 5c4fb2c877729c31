/-
  DERIVED. GIVEN WITH THE SEED: THE CARDS: each row of YthaobhghbopgkaaDoorRows.lean that lists a variable, with what it lists TIED to the program's text (the seventh form; the later family's looks); each row that meets fmt, with fmt's text TOLD by the authors' own Lean function (tested against real Go, not proved from fmt's source: count such statements apart). THE CARD IS WHAT COUNTS. Prove the row's statement (the work); the ties are given (YthaobhghbopgkaaDoorTie.lean); close each card by the builder's one call (the guide's Derived/Test/ToyasCard.lean, 'card_holds'). Laid BY PROGRAM, IN A SANDBOX (cutbox-door.mjs). By AI agents, Wed Nov 11 2026. No macro, syntax, notation, axiom, sorry.
-/
import Derived.Test.YthaobhghbopgkaaDoorRows
import GoSem.ClaimSeven
namespace Go.Proofs.YthaobhghbopgkaaDoor
namespace Rows

/-- THE TIED CARD OF 'laws.FnSetGaps'. -/
def fnSetGapsCard : Claim7 := { stood := { row := fnSetGapsRow, standIns := [], harness := (true, "deaed0f338990ee04181d374653fad0da699d75d5babd6517955dec1bb75fa12"), looks := false }, kinds := [], alts := [], laidByText := true, laidKinds := [.data, .data, .data, .data, .pinned], laidTests := true, laidLooks := .later }
def FnSetGapsCardSaid : Prop := Claim7.holds Tryd.pinned (.plain (OpenSpec.ofChange fnSetGapsSpec)) fnSetGapsCard

/-- THE TIED CARD OF 'laws.FnExactSetGaps'. -/
def fnExactSetGapsCard : Claim7 := { stood := { row := fnExactSetGapsRow, standIns := [], harness := (true, "deaed0f338990ee04181d374653fad0da699d75d5babd6517955dec1bb75fa12"), looks := false }, kinds := [], alts := [], laidByText := true, laidKinds := [.data, .data, .data], laidTests := true, laidLooks := .later }
def FnExactSetGapsCardSaid : Prop := Claim7.holds Tryd.pinned (.plain (OpenSpec.ofChange fnExactSetGapsSpec)) fnExactSetGapsCard

/-- THE TIED CARD OF 'laws.FnExactSetRead'. -/
def fnExactSetReadCard : Claim7 := { stood := { row := fnExactSetReadRow, standIns := [], harness := (true, "deaed0f338990ee04181d374653fad0da699d75d5babd6517955dec1bb75fa12"), looks := false }, kinds := [], alts := [], laidByText := true, laidKinds := [.data, .pinned], laidTests := true, laidLooks := .later }
def FnExactSetReadCardSaid : Prop := Claim7.holds Tryd.pinned (.plain (OpenSpec.ofChange fnExactSetReadSpec)) fnExactSetReadCard

/-- THE SECOND FORM's CARD OF 'laws.FnSetGaps'. -/
def fnSetGapsUptoCard : Claim7 := { stood := { row := fnSetGapsUptoRow, standIns := [], harness := (true, "deaed0f338990ee04181d374653fad0da699d75d5babd6517955dec1bb75fa12"), looks := false }, kinds := [], alts := [], laidByText := true, laidKinds := [.data, .data, .data, .data, .pinned], laidTests := true, laidLooks := .later }
def FnSetGapsUptoCardSaid : Prop := Claim7.holds Tryd.pinned (.plain (OpenSpec.upto fnSetGapsSpec)) fnSetGapsUptoCard

/-- THE SECOND FORM's CARD OF 'laws.FnExactSetGaps'. -/
def fnExactSetGapsUptoCard : Claim7 := { stood := { row := fnExactSetGapsUptoRow, standIns := [], harness := (true, "deaed0f338990ee04181d374653fad0da699d75d5babd6517955dec1bb75fa12"), looks := false }, kinds := [], alts := [], laidByText := true, laidKinds := [.data, .data, .data], laidTests := true, laidLooks := .later }
def FnExactSetGapsUptoCardSaid : Prop := Claim7.holds Tryd.pinned (.plain (OpenSpec.upto fnExactSetGapsSpec)) fnExactSetGapsUptoCard

/-- THE SECOND FORM's CARD OF 'laws.FnExactSetRead'. -/
def fnExactSetReadUptoCard : Claim7 := { stood := { row := fnExactSetReadUptoRow, standIns := [], harness := (true, "deaed0f338990ee04181d374653fad0da699d75d5babd6517955dec1bb75fa12"), looks := false }, kinds := [], alts := [], laidByText := true, laidKinds := [.data, .pinned], laidTests := true, laidLooks := .later }
def FnExactSetReadUptoCardSaid : Prop := Claim7.holds Tryd.pinned (.plain (OpenSpec.upto fnExactSetReadSpec)) fnExactSetReadUptoCard
end Rows
end Go.Proofs.YthaobhghbopgkaaDoor
