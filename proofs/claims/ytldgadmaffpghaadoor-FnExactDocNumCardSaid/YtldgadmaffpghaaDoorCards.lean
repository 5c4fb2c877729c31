/-
  DERIVED. GIVEN WITH THE SEED: THE CARDS: each row of YtldgadmaffpghaaDoorRows.lean that lists a variable, with what it lists TIED to the program's text (the seventh form; the later family's looks); each row that meets fmt, with fmt's text TOLD by the authors' own Lean function (tested against real Go, not proved from fmt's source: count such statements apart). THE CARD IS WHAT COUNTS. Prove the row's statement (the work); the ties are given (YtldgadmaffpghaaDoorTie.lean); close each card by the builder's one call (the guide's Derived/Test/ToyasCard.lean, 'card_holds'). Laid BY PROGRAM, IN A SANDBOX (cutbox-door.mjs). By AI agents, Wed Nov 11 2026. No macro, syntax, notation, axiom, sorry.
-/
import Derived.Test.YtldgadmaffpghaaDoorRows
import GoSem.ClaimSeven
namespace Go.Proofs.YtldgadmaffpghaaDoor
namespace Rows

/-- THE TIED CARD OF 'laws.FnExactDocNum'. -/
def fnExactDocNumCard : Claim7 := { stood := { row := fnExactDocNumRow, standIns := [], harness := (true, "c7a462e005ba393c8db07d0545d67c6994bcd01b13ad926d127f51583c666b24"), looks := true }, kinds := [], alts := [], laidByText := true, laidKinds := [.data, .pinned], laidTests := true, laidLooks := .later }
def FnExactDocNumCardSaid : Prop := Claim7.holds Tryd.pinned (.plain (OpenSpec.ofChange fnExactDocNumSpec)) fnExactDocNumCard

/-- THE TIED CARD OF 'laws.FnDocNum'. -/
def fnDocNumCard : Claim7 := { stood := { row := fnDocNumRow, standIns := [], harness := (true, "c7a462e005ba393c8db07d0545d67c6994bcd01b13ad926d127f51583c666b24"), looks := true }, kinds := [], alts := [], laidByText := true, laidKinds := [.data, .pinned], laidTests := true, laidLooks := .later }
def FnDocNumCardSaid : Prop := Claim7.holds Tryd.pinned (.plain (OpenSpec.ofChange fnDocNumSpec)) fnDocNumCard

/-- THE SECOND FORM's CARD OF 'laws.FnExactDocNum'. -/
def fnExactDocNumUptoCard : Claim7 := { stood := { row := fnExactDocNumUptoRow, standIns := [], harness := (true, "c7a462e005ba393c8db07d0545d67c6994bcd01b13ad926d127f51583c666b24"), looks := true }, kinds := [], alts := [], laidByText := true, laidKinds := [.data, .pinned], laidTests := true, laidLooks := .later }
def FnExactDocNumUptoCardSaid : Prop := Claim7.holds Tryd.pinned (.plain (OpenSpec.upto fnExactDocNumSpec)) fnExactDocNumUptoCard

/-- THE SECOND FORM's CARD OF 'laws.FnDocNum'. -/
def fnDocNumUptoCard : Claim7 := { stood := { row := fnDocNumUptoRow, standIns := [], harness := (true, "c7a462e005ba393c8db07d0545d67c6994bcd01b13ad926d127f51583c666b24"), looks := true }, kinds := [], alts := [], laidByText := true, laidKinds := [.data, .pinned], laidTests := true, laidLooks := .later }
def FnDocNumUptoCardSaid : Prop := Claim7.holds Tryd.pinned (.plain (OpenSpec.upto fnDocNumSpec)) fnDocNumUptoCard
end Rows
end Go.Proofs.YtldgadmaffpghaaDoor
