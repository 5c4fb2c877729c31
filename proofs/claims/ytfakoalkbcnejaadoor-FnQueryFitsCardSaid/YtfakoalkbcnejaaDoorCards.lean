/-
  DERIVED. GIVEN WITH THE SEED: THE CARDS: each row of YtfakoalkbcnejaaDoorRows.lean that lists a variable, with what it lists TIED to the program's text (the seventh form; the later family's looks); each row that meets fmt, with fmt's text TOLD by the authors' own Lean function (tested against real Go, not proved from fmt's source: count such statements apart). THE CARD IS WHAT COUNTS. Prove the row's statement (the work); the ties are given (YtfakoalkbcnejaaDoorTie.lean); close each card by the builder's one call (the guide's Derived/Test/ToyasCard.lean, 'card_holds'). Laid BY PROGRAM, IN A SANDBOX (cutbox-door.mjs). By AI agents, Wed Nov 11 2026. No macro, syntax, notation, axiom, sorry.
-/
import Derived.Test.YtfakoalkbcnejaaDoorRows
import GoSem.ClaimSeven
namespace Go.Proofs.YtfakoalkbcnejaaDoor
namespace Rows

/-- THE TIED CARD OF 'laws.FnExactQueryOk'. -/
def fnExactQueryOkCard : Claim7 := { stood := { row := fnExactQueryOkRow, standIns := [], harness := (true, "52693f588a84f0d1a55122dc3e861010d41583648837eb72a84b3e35d745d87f"), looks := false }, kinds := [], alts := [], laidByText := true, laidKinds := [.data, .pinned], laidTests := true, laidLooks := .later }
def FnExactQueryOkCardSaid : Prop := Claim7.holds Tryd.pinned (.plain (OpenSpec.ofChange fnExactQueryOkSpec)) fnExactQueryOkCard

/-- THE TIED CARD OF 'laws.FnExactQueryFits'. -/
def fnExactQueryFitsCard : Claim7 := { stood := { row := fnExactQueryFitsRow, standIns := [], harness := (true, "52693f588a84f0d1a55122dc3e861010d41583648837eb72a84b3e35d745d87f"), looks := false }, kinds := [], alts := [], laidByText := true, laidKinds := [.data, .pinned], laidTests := true, laidLooks := .later }
def FnExactQueryFitsCardSaid : Prop := Claim7.holds Tryd.pinned (.plain (OpenSpec.ofChange fnExactQueryFitsSpec)) fnExactQueryFitsCard

/-- THE TIED CARD OF 'laws.FnExactQueryTerms'. -/
def fnExactQueryTermsCard : Claim7 := { stood := { row := fnExactQueryTermsRow, standIns := [], harness := (true, "52693f588a84f0d1a55122dc3e861010d41583648837eb72a84b3e35d745d87f"), looks := false }, kinds := [], alts := [], laidByText := true, laidKinds := [.data, .pinned], laidTests := true, laidLooks := .later }
def FnExactQueryTermsCardSaid : Prop := Claim7.holds Tryd.pinned (.plain (OpenSpec.ofChange fnExactQueryTermsSpec)) fnExactQueryTermsCard

/-- THE TIED CARD OF 'laws.FnExactQueryTurn'. -/
def fnExactQueryTurnCard : Claim7 := { stood := { row := fnExactQueryTurnRow, standIns := [], harness := (true, "52693f588a84f0d1a55122dc3e861010d41583648837eb72a84b3e35d745d87f"), looks := false }, kinds := [], alts := [], laidByText := true, laidKinds := [.data, .pinned], laidTests := true, laidLooks := .later }
def FnExactQueryTurnCardSaid : Prop := Claim7.holds Tryd.pinned (.plain (OpenSpec.ofChange fnExactQueryTurnSpec)) fnExactQueryTurnCard

/-- THE TIED CARD OF 'laws.FnQueryFits'. -/
def fnQueryFitsCard : Claim7 := { stood := { row := fnQueryFitsRow, standIns := [], harness := (true, "52693f588a84f0d1a55122dc3e861010d41583648837eb72a84b3e35d745d87f"), looks := false }, kinds := [], alts := [], laidByText := true, laidKinds := [.data, .pinned], laidTests := true, laidLooks := .later }
def FnQueryFitsCardSaid : Prop := Claim7.holds Tryd.pinned (.plain (OpenSpec.ofChange fnQueryFitsSpec)) fnQueryFitsCard

/-- THE TIED CARD OF 'laws.FnQueryTerms'. -/
def fnQueryTermsCard : Claim7 := { stood := { row := fnQueryTermsRow, standIns := [], harness := (true, "52693f588a84f0d1a55122dc3e861010d41583648837eb72a84b3e35d745d87f"), looks := false }, kinds := [], alts := [], laidByText := true, laidKinds := [.data, .pinned], laidTests := true, laidLooks := .later }
def FnQueryTermsCardSaid : Prop := Claim7.holds Tryd.pinned (.plain (OpenSpec.ofChange fnQueryTermsSpec)) fnQueryTermsCard

/-- THE SECOND FORM's CARD OF 'laws.FnExactQueryOk'. -/
def fnExactQueryOkUptoCard : Claim7 := { stood := { row := fnExactQueryOkUptoRow, standIns := [], harness := (true, "52693f588a84f0d1a55122dc3e861010d41583648837eb72a84b3e35d745d87f"), looks := false }, kinds := [], alts := [], laidByText := true, laidKinds := [.data, .pinned], laidTests := true, laidLooks := .later }
def FnExactQueryOkUptoCardSaid : Prop := Claim7.holds Tryd.pinned (.plain (OpenSpec.upto fnExactQueryOkSpec)) fnExactQueryOkUptoCard

/-- THE SECOND FORM's CARD OF 'laws.FnExactQueryFits'. -/
def fnExactQueryFitsUptoCard : Claim7 := { stood := { row := fnExactQueryFitsUptoRow, standIns := [], harness := (true, "52693f588a84f0d1a55122dc3e861010d41583648837eb72a84b3e35d745d87f"), looks := false }, kinds := [], alts := [], laidByText := true, laidKinds := [.data, .pinned], laidTests := true, laidLooks := .later }
def FnExactQueryFitsUptoCardSaid : Prop := Claim7.holds Tryd.pinned (.plain (OpenSpec.upto fnExactQueryFitsSpec)) fnExactQueryFitsUptoCard

/-- THE SECOND FORM's CARD OF 'laws.FnExactQueryTerms'. -/
def fnExactQueryTermsUptoCard : Claim7 := { stood := { row := fnExactQueryTermsUptoRow, standIns := [], harness := (true, "52693f588a84f0d1a55122dc3e861010d41583648837eb72a84b3e35d745d87f"), looks := false }, kinds := [], alts := [], laidByText := true, laidKinds := [.data, .pinned], laidTests := true, laidLooks := .later }
def FnExactQueryTermsUptoCardSaid : Prop := Claim7.holds Tryd.pinned (.plain (OpenSpec.upto fnExactQueryTermsSpec)) fnExactQueryTermsUptoCard

/-- THE SECOND FORM's CARD OF 'laws.FnExactQueryTurn'. -/
def fnExactQueryTurnUptoCard : Claim7 := { stood := { row := fnExactQueryTurnUptoRow, standIns := [], harness := (true, "52693f588a84f0d1a55122dc3e861010d41583648837eb72a84b3e35d745d87f"), looks := false }, kinds := [], alts := [], laidByText := true, laidKinds := [.data, .pinned], laidTests := true, laidLooks := .later }
def FnExactQueryTurnUptoCardSaid : Prop := Claim7.holds Tryd.pinned (.plain (OpenSpec.upto fnExactQueryTurnSpec)) fnExactQueryTurnUptoCard

/-- THE SECOND FORM's CARD OF 'laws.FnQueryFits'. -/
def fnQueryFitsUptoCard : Claim7 := { stood := { row := fnQueryFitsUptoRow, standIns := [], harness := (true, "52693f588a84f0d1a55122dc3e861010d41583648837eb72a84b3e35d745d87f"), looks := false }, kinds := [], alts := [], laidByText := true, laidKinds := [.data, .pinned], laidTests := true, laidLooks := .later }
def FnQueryFitsUptoCardSaid : Prop := Claim7.holds Tryd.pinned (.plain (OpenSpec.upto fnQueryFitsSpec)) fnQueryFitsUptoCard

/-- THE SECOND FORM's CARD OF 'laws.FnQueryTerms'. -/
def fnQueryTermsUptoCard : Claim7 := { stood := { row := fnQueryTermsUptoRow, standIns := [], harness := (true, "52693f588a84f0d1a55122dc3e861010d41583648837eb72a84b3e35d745d87f"), looks := false }, kinds := [], alts := [], laidByText := true, laidKinds := [.data, .pinned], laidTests := true, laidLooks := .later }
def FnQueryTermsUptoCardSaid : Prop := Claim7.holds Tryd.pinned (.plain (OpenSpec.upto fnQueryTermsSpec)) fnQueryTermsUptoCard
end Rows
end Go.Proofs.YtfakoalkbcnejaaDoor
