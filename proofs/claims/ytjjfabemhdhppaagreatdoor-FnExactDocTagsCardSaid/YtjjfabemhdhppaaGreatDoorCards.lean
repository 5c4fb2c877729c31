/-
  DERIVED. GIVEN WITH THE SEED: THE CARDS: each row of YtjjfabemhdhppaaGreatDoorRows.lean that lists a variable, with what it lists TIED to the program's text (the seventh form; the later family's looks); each row that meets fmt, with fmt's text TOLD by the authors' own Lean function (tested against real Go, not proved from fmt's source: count such statements apart). THE CARD IS WHAT COUNTS. Prove the row's statement (the work); the ties are given (YtjjfabemhdhppaaGreatDoorTie.lean); close each card by the builder's one call (the guide's Derived/Test/ToyasCard.lean, 'card_holds'). Laid BY PROGRAM, IN A SANDBOX (cutbox-door.mjs). By AI agents, Wed Nov 11 2026. No macro, syntax, notation, axiom, sorry.
-/
import Derived.Test.YtjjfabemhdhppaaGreatDoorRows
import GoSem.ClaimSeven
namespace Go.Proofs.YtjjfabemhdhppaaGreatDoor
namespace Rows

/-- THE TIED CARD OF 'laws.FnExactDocTags'. -/
def fnExactDocTagsCard : Claim7 := { stood := { row := fnExactDocTagsRow, standIns := [], harness := (true, "0816aade0088cbeb9a662c7a65fb17b10b464e080b725acce243d805fbb4707b"), looks := true }, kinds := [], alts := [], laidByText := true, laidKinds := [.data, .pinned], laidTests := true, laidLooks := .later }
def FnExactDocTagsCardSaid : Prop := Claim7.holds Tryz.pinned (.plain (OpenSpec.ofChange fnExactDocTagsSpec)) fnExactDocTagsCard

/-- THE SECOND FORM's CARD OF 'laws.FnExactDocTags'. -/
def fnExactDocTagsUptoCard : Claim7 := { stood := { row := fnExactDocTagsUptoRow, standIns := [], harness := (true, "0816aade0088cbeb9a662c7a65fb17b10b464e080b725acce243d805fbb4707b"), looks := true }, kinds := [], alts := [], laidByText := true, laidKinds := [.data, .pinned], laidTests := true, laidLooks := .later }
def FnExactDocTagsUptoCardSaid : Prop := Claim7.holds Tryz.pinned (.plain (OpenSpec.upto fnExactDocTagsSpec)) fnExactDocTagsUptoCard
end Rows
end Go.Proofs.YtjjfabemhdhppaaGreatDoor
