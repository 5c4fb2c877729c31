/-
  DERIVED. GIVEN WITH THE SEED: THE CARDS: each row of YtjjfabemhdhppaaDoorRows.lean that lists a variable, with what it lists TIED to the program's text (the seventh form; the later family's looks); each row that meets fmt, with fmt's text TOLD by the authors' own Lean function (tested against real Go, not proved from fmt's source: count such statements apart). THE CARD IS WHAT COUNTS. Prove the row's statement (the work); the ties are given (YtjjfabemhdhppaaDoorTie.lean); close each card by the builder's one call (the guide's Derived/Test/ToyasCard.lean, 'card_holds'). Laid BY PROGRAM, IN A SANDBOX (cutbox-door.mjs). By AI agents, Wed Nov 11 2026. No macro, syntax, notation, axiom, sorry.
-/
import Derived.Test.YtjjfabemhdhppaaDoorRows
import GoSem.ClaimSeven
namespace Go.Proofs.YtjjfabemhdhppaaDoor
namespace Rows

/-- THE TIED CARD OF 'laws.FnDocTags'. -/
def fnDocTagsCard : Claim7 := { stood := { row := fnDocTagsRow, standIns := [], harness := (true, "45891c090c82e541c0e1162003b7c6113f9d47e00d400f30813710fa0c7b6e4d"), looks := true }, kinds := [], alts := [], laidByText := true, laidKinds := [.data, .pinned], laidTests := true, laidLooks := .later }
def FnDocTagsCardSaid : Prop := Claim7.holds Tryd.pinned (.plain (OpenSpec.ofChange fnDocTagsSpec)) fnDocTagsCard

/-- THE TIED CARD OF 'laws.FnDocNum'. -/
def fnDocNumCard : Claim7 := { stood := { row := fnDocNumRow, standIns := [], harness := (true, "45891c090c82e541c0e1162003b7c6113f9d47e00d400f30813710fa0c7b6e4d"), looks := true }, kinds := [], alts := [], laidByText := true, laidKinds := [.data, .pinned], laidTests := true, laidLooks := .later }
def FnDocNumCardSaid : Prop := Claim7.holds Tryd.pinned (.plain (OpenSpec.ofChange fnDocNumSpec)) fnDocNumCard

/-- THE SECOND FORM's CARD OF 'laws.FnDocTags'. -/
def fnDocTagsUptoCard : Claim7 := { stood := { row := fnDocTagsUptoRow, standIns := [], harness := (true, "45891c090c82e541c0e1162003b7c6113f9d47e00d400f30813710fa0c7b6e4d"), looks := true }, kinds := [], alts := [], laidByText := true, laidKinds := [.data, .pinned], laidTests := true, laidLooks := .later }
def FnDocTagsUptoCardSaid : Prop := Claim7.holds Tryd.pinned (.plain (OpenSpec.upto fnDocTagsSpec)) fnDocTagsUptoCard

/-- THE SECOND FORM's CARD OF 'laws.FnDocNum'. -/
def fnDocNumUptoCard : Claim7 := { stood := { row := fnDocNumUptoRow, standIns := [], harness := (true, "45891c090c82e541c0e1162003b7c6113f9d47e00d400f30813710fa0c7b6e4d"), looks := true }, kinds := [], alts := [], laidByText := true, laidKinds := [.data, .pinned], laidTests := true, laidLooks := .later }
def FnDocNumUptoCardSaid : Prop := Claim7.holds Tryd.pinned (.plain (OpenSpec.upto fnDocNumSpec)) fnDocNumUptoCard
end Rows
end Go.Proofs.YtjjfabemhdhppaaDoor
