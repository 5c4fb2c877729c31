/-
  DERIVED. GIVEN WITH THE SEED: THE CARDS: each row of YtjkimadnopeakaaGreatDoorRows.lean that lists a variable, with what it lists TIED to the program's text (the seventh form; the later family's looks); each row that meets fmt, with fmt's text TOLD by the authors' own Lean function (tested against real Go, not proved from fmt's source: count such statements apart). THE CARD IS WHAT COUNTS. Prove the row's statement (the work); the ties are given (YtjkimadnopeakaaGreatDoorTie.lean); close each card by the builder's one call (the guide's Derived/Test/ToyasCard.lean, 'card_holds'). Laid BY PROGRAM, IN A SANDBOX (cutbox-door.mjs). By AI agents, Wed Nov 11 2026. No macro, syntax, notation, axiom, sorry.
-/
import Derived.Test.YtjkimadnopeakaaGreatDoorRows
import GoSem.ClaimSeven
namespace Go.Proofs.YtjkimadnopeakaaGreatDoor
namespace Rows

/-- THE TIED CARD OF 'laws.FnExactMeets'. -/
def fnExactMeetsCard : Claim7 := { stood := { row := fnExactMeetsRow, standIns := [], harness := (true, "563cb0606c65c48c68743cad0a95f6d6e5fa85f8fde71240b40cf49ea1c8974c"), looks := true }, kinds := [], alts := [], laidByText := true, laidKinds := [.data, .pinned], laidTests := true, laidLooks := .later }
def FnExactMeetsCardSaid : Prop := Claim7.holds Tryz.pinned (.plain (OpenSpec.ofChange fnExactMeetsSpec)) fnExactMeetsCard

/-- THE TIED CARD OF 'laws.FnMeets'. -/
def fnMeetsCard : Claim7 := { stood := { row := fnMeetsRow, standIns := [], harness := (true, "563cb0606c65c48c68743cad0a95f6d6e5fa85f8fde71240b40cf49ea1c8974c"), looks := true }, kinds := [], alts := [], laidByText := true, laidKinds := [.data, .pinned], laidTests := true, laidLooks := .later }
def FnMeetsCardSaid : Prop := Claim7.holds Tryz.pinned (.plain (OpenSpec.ofChange fnMeetsSpec)) fnMeetsCard

/-- THE TIED CARD OF 'laws.FnMeetsTurn'. -/
def fnMeetsTurnCard : Claim7 := { stood := { row := fnMeetsTurnRow, standIns := [], harness := (true, "563cb0606c65c48c68743cad0a95f6d6e5fa85f8fde71240b40cf49ea1c8974c"), looks := true }, kinds := [], alts := [], laidByText := true, laidKinds := [.data, .pinned], laidTests := true, laidLooks := .later }
def FnMeetsTurnCardSaid : Prop := Claim7.holds Tryz.pinned (.plain (OpenSpec.ofChange fnMeetsTurnSpec)) fnMeetsTurnCard

/-- THE TIED CARD OF 'laws.FnMeetsWord'. -/
def fnMeetsWordCard : Claim7 := { stood := { row := fnMeetsWordRow, standIns := [], harness := (true, "563cb0606c65c48c68743cad0a95f6d6e5fa85f8fde71240b40cf49ea1c8974c"), looks := true }, kinds := [], alts := [], laidByText := true, laidKinds := [.data, .pinned], laidTests := true, laidLooks := .later }
def FnMeetsWordCardSaid : Prop := Claim7.holds Tryz.pinned (.plain (OpenSpec.ofChange fnMeetsWordSpec)) fnMeetsWordCard

/-- THE TIED CARD OF 'laws.FnDocMeets'. -/
def fnDocMeetsCard : Claim7 := { stood := { row := fnDocMeetsRow, standIns := [], harness := (true, "563cb0606c65c48c68743cad0a95f6d6e5fa85f8fde71240b40cf49ea1c8974c"), looks := true }, kinds := [], alts := [], laidByText := true, laidKinds := [.data, .pinned], laidTests := true, laidLooks := .later }
def FnDocMeetsCardSaid : Prop := Claim7.holds Tryz.pinned (.plain (OpenSpec.ofChange fnDocMeetsSpec)) fnDocMeetsCard

/-- THE TIED CARD OF 'laws.FnDocLess'. -/
def fnDocLessCard : Claim7 := { stood := { row := fnDocLessRow, standIns := [], harness := (true, "563cb0606c65c48c68743cad0a95f6d6e5fa85f8fde71240b40cf49ea1c8974c"), looks := true }, kinds := [], alts := [], laidByText := true, laidKinds := [.data, .pinned], laidTests := true, laidLooks := .later }
def FnDocLessCardSaid : Prop := Claim7.holds Tryz.pinned (.plain (OpenSpec.ofChange fnDocLessSpec)) fnDocLessCard

/-- THE TIED CARD OF 'laws.FnQueryTwice'. -/
def fnQueryTwiceCard : Claim7 := { stood := { row := fnQueryTwiceRow, standIns := [], harness := (true, "563cb0606c65c48c68743cad0a95f6d6e5fa85f8fde71240b40cf49ea1c8974c"), looks := true }, kinds := [], alts := [], laidByText := true, laidKinds := [.data, .pinned], laidTests := true, laidLooks := .later }
def FnQueryTwiceCardSaid : Prop := Claim7.holds Tryz.pinned (.plain (OpenSpec.ofChange fnQueryTwiceSpec)) fnQueryTwiceCard

/-- THE SECOND FORM's CARD OF 'laws.FnExactMeets'. -/
def fnExactMeetsUptoCard : Claim7 := { stood := { row := fnExactMeetsUptoRow, standIns := [], harness := (true, "563cb0606c65c48c68743cad0a95f6d6e5fa85f8fde71240b40cf49ea1c8974c"), looks := true }, kinds := [], alts := [], laidByText := true, laidKinds := [.data, .pinned], laidTests := true, laidLooks := .later }
def FnExactMeetsUptoCardSaid : Prop := Claim7.holds Tryz.pinned (.plain (OpenSpec.upto fnExactMeetsSpec)) fnExactMeetsUptoCard

/-- THE SECOND FORM's CARD OF 'laws.FnMeets'. -/
def fnMeetsUptoCard : Claim7 := { stood := { row := fnMeetsUptoRow, standIns := [], harness := (true, "563cb0606c65c48c68743cad0a95f6d6e5fa85f8fde71240b40cf49ea1c8974c"), looks := true }, kinds := [], alts := [], laidByText := true, laidKinds := [.data, .pinned], laidTests := true, laidLooks := .later }
def FnMeetsUptoCardSaid : Prop := Claim7.holds Tryz.pinned (.plain (OpenSpec.upto fnMeetsSpec)) fnMeetsUptoCard

/-- THE SECOND FORM's CARD OF 'laws.FnMeetsTurn'. -/
def fnMeetsTurnUptoCard : Claim7 := { stood := { row := fnMeetsTurnUptoRow, standIns := [], harness := (true, "563cb0606c65c48c68743cad0a95f6d6e5fa85f8fde71240b40cf49ea1c8974c"), looks := true }, kinds := [], alts := [], laidByText := true, laidKinds := [.data, .pinned], laidTests := true, laidLooks := .later }
def FnMeetsTurnUptoCardSaid : Prop := Claim7.holds Tryz.pinned (.plain (OpenSpec.upto fnMeetsTurnSpec)) fnMeetsTurnUptoCard

/-- THE SECOND FORM's CARD OF 'laws.FnMeetsWord'. -/
def fnMeetsWordUptoCard : Claim7 := { stood := { row := fnMeetsWordUptoRow, standIns := [], harness := (true, "563cb0606c65c48c68743cad0a95f6d6e5fa85f8fde71240b40cf49ea1c8974c"), looks := true }, kinds := [], alts := [], laidByText := true, laidKinds := [.data, .pinned], laidTests := true, laidLooks := .later }
def FnMeetsWordUptoCardSaid : Prop := Claim7.holds Tryz.pinned (.plain (OpenSpec.upto fnMeetsWordSpec)) fnMeetsWordUptoCard

/-- THE SECOND FORM's CARD OF 'laws.FnDocMeets'. -/
def fnDocMeetsUptoCard : Claim7 := { stood := { row := fnDocMeetsUptoRow, standIns := [], harness := (true, "563cb0606c65c48c68743cad0a95f6d6e5fa85f8fde71240b40cf49ea1c8974c"), looks := true }, kinds := [], alts := [], laidByText := true, laidKinds := [.data, .pinned], laidTests := true, laidLooks := .later }
def FnDocMeetsUptoCardSaid : Prop := Claim7.holds Tryz.pinned (.plain (OpenSpec.upto fnDocMeetsSpec)) fnDocMeetsUptoCard

/-- THE SECOND FORM's CARD OF 'laws.FnDocLess'. -/
def fnDocLessUptoCard : Claim7 := { stood := { row := fnDocLessUptoRow, standIns := [], harness := (true, "563cb0606c65c48c68743cad0a95f6d6e5fa85f8fde71240b40cf49ea1c8974c"), looks := true }, kinds := [], alts := [], laidByText := true, laidKinds := [.data, .pinned], laidTests := true, laidLooks := .later }
def FnDocLessUptoCardSaid : Prop := Claim7.holds Tryz.pinned (.plain (OpenSpec.upto fnDocLessSpec)) fnDocLessUptoCard

/-- THE SECOND FORM's CARD OF 'laws.FnQueryTwice'. -/
def fnQueryTwiceUptoCard : Claim7 := { stood := { row := fnQueryTwiceUptoRow, standIns := [], harness := (true, "563cb0606c65c48c68743cad0a95f6d6e5fa85f8fde71240b40cf49ea1c8974c"), looks := true }, kinds := [], alts := [], laidByText := true, laidKinds := [.data, .pinned], laidTests := true, laidLooks := .later }
def FnQueryTwiceUptoCardSaid : Prop := Claim7.holds Tryz.pinned (.plain (OpenSpec.upto fnQueryTwiceSpec)) fnQueryTwiceUptoCard
end Rows
end Go.Proofs.YtjkimadnopeakaaGreatDoor
