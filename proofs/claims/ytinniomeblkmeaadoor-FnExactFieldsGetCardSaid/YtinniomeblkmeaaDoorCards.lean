/-
  DERIVED. GIVEN WITH THE SEED: THE CARDS: each row of YtinniomeblkmeaaDoorRows.lean that lists a variable, with what it lists TIED to the program's text (the seventh form; the later family's looks); each row that meets fmt, with fmt's text TOLD by the authors' own Lean function (tested against real Go, not proved from fmt's source: count such statements apart). THE CARD IS WHAT COUNTS. Prove the row's statement (the work); the ties are given (YtinniomeblkmeaaDoorTie.lean); close each card by the builder's one call (the guide's Derived/Test/ToyasCard.lean, 'card_holds'). Laid BY PROGRAM, IN A SANDBOX (cutbox-door.mjs). By AI agents, Wed Nov 11 2026. No macro, syntax, notation, axiom, sorry.
-/
import Derived.Test.YtinniomeblkmeaaDoorRows
import GoSem.ClaimSeven
namespace Go.Proofs.YtinniomeblkmeaaDoor
namespace Rows

/-- THE TIED CARD OF 'laws.FnFields'. -/
def fnFieldsCard : Claim7 := { stood := { row := fnFieldsRow, standIns := [], harness := (true, "326bae95607f7bea5770bff8292922761cfae8da930525765faf29b4716c5412"), looks := true }, kinds := [], alts := [], laidByText := true, laidKinds := [.data, .data, .data, .data, .pinned], laidTests := true, laidLooks := .later }
def FnFieldsCardSaid : Prop := Claim7.holds Tryd.pinned (.plain (OpenSpec.ofChange fnFieldsSpec)) fnFieldsCard

/-- THE TIED CARD OF 'laws.FnDoc'. -/
def fnDocCard : Claim7 := { stood := { row := fnDocRow, standIns := [], harness := (true, "326bae95607f7bea5770bff8292922761cfae8da930525765faf29b4716c5412"), looks := true }, kinds := [], alts := [], laidByText := true, laidKinds := [.data, .pinned], laidTests := true, laidLooks := .later }
def FnDocCardSaid : Prop := Claim7.holds Tryd.pinned (.plain (OpenSpec.ofChange fnDocSpec)) fnDocCard

/-- THE TIED CARD OF 'laws.FnDocNum'. -/
def fnDocNumCard : Claim7 := { stood := { row := fnDocNumRow, standIns := [], harness := (true, "326bae95607f7bea5770bff8292922761cfae8da930525765faf29b4716c5412"), looks := true }, kinds := [], alts := [], laidByText := true, laidKinds := [.data, .pinned], laidTests := true, laidLooks := .later }
def FnDocNumCardSaid : Prop := Claim7.holds Tryd.pinned (.plain (OpenSpec.ofChange fnDocNumSpec)) fnDocNumCard

/-- THE TIED CARD OF 'laws.FnDocTags'. -/
def fnDocTagsCard : Claim7 := { stood := { row := fnDocTagsRow, standIns := [], harness := (true, "326bae95607f7bea5770bff8292922761cfae8da930525765faf29b4716c5412"), looks := true }, kinds := [], alts := [], laidByText := true, laidKinds := [.data, .pinned], laidTests := true, laidLooks := .later }
def FnDocTagsCardSaid : Prop := Claim7.holds Tryd.pinned (.plain (OpenSpec.ofChange fnDocTagsSpec)) fnDocTagsCard

/-- THE TIED CARD OF 'laws.FnFieldsMore'. -/
def fnFieldsMoreCard : Claim7 := { stood := { row := fnFieldsMoreRow, standIns := [], harness := (true, "326bae95607f7bea5770bff8292922761cfae8da930525765faf29b4716c5412"), looks := true }, kinds := [], alts := [], laidByText := true, laidKinds := [.data, .data, .data], laidTests := true, laidLooks := .later }
def FnFieldsMoreCardSaid : Prop := Claim7.holds Tryd.pinned (.plain (OpenSpec.ofChange fnFieldsMoreSpec)) fnFieldsMoreCard

/-- THE TIED CARD OF 'laws.FnExactFieldsPut'. -/
def fnExactFieldsPutCard : Claim7 := { stood := { row := fnExactFieldsPutRow, standIns := [], harness := (true, "326bae95607f7bea5770bff8292922761cfae8da930525765faf29b4716c5412"), looks := true }, kinds := [], alts := [], laidByText := true, laidKinds := [.data, .data, .data], laidTests := true, laidLooks := .later }
def FnExactFieldsPutCardSaid : Prop := Claim7.holds Tryd.pinned (.plain (OpenSpec.ofChange fnExactFieldsPutSpec)) fnExactFieldsPutCard

/-- THE TIED CARD OF 'laws.FnExactFieldsGet'. -/
def fnExactFieldsGetCard : Claim7 := { stood := { row := fnExactFieldsGetRow, standIns := [], harness := (true, "326bae95607f7bea5770bff8292922761cfae8da930525765faf29b4716c5412"), looks := true }, kinds := [], alts := [], laidByText := true, laidKinds := [.data, .pinned], laidTests := true, laidLooks := .later }
def FnExactFieldsGetCardSaid : Prop := Claim7.holds Tryd.pinned (.plain (OpenSpec.ofChange fnExactFieldsGetSpec)) fnExactFieldsGetCard

/-- THE TIED CARD OF 'laws.FnExactDocNum'. -/
def fnExactDocNumCard : Claim7 := { stood := { row := fnExactDocNumRow, standIns := [], harness := (true, "326bae95607f7bea5770bff8292922761cfae8da930525765faf29b4716c5412"), looks := true }, kinds := [], alts := [], laidByText := true, laidKinds := [.data, .pinned], laidTests := true, laidLooks := .later }
def FnExactDocNumCardSaid : Prop := Claim7.holds Tryd.pinned (.plain (OpenSpec.ofChange fnExactDocNumSpec)) fnExactDocNumCard

/-- THE TIED CARD OF 'laws.FnExactDocGet'. -/
def fnExactDocGetCard : Claim7 := { stood := { row := fnExactDocGetRow, standIns := [], harness := (true, "326bae95607f7bea5770bff8292922761cfae8da930525765faf29b4716c5412"), looks := true }, kinds := [], alts := [], laidByText := true, laidKinds := [.data, .pinned], laidTests := true, laidLooks := .later }
def FnExactDocGetCardSaid : Prop := Claim7.holds Tryd.pinned (.plain (OpenSpec.ofChange fnExactDocGetSpec)) fnExactDocGetCard

/-- THE SECOND FORM's CARD OF 'laws.FnFields'. -/
def fnFieldsUptoCard : Claim7 := { stood := { row := fnFieldsUptoRow, standIns := [], harness := (true, "326bae95607f7bea5770bff8292922761cfae8da930525765faf29b4716c5412"), looks := true }, kinds := [], alts := [], laidByText := true, laidKinds := [.data, .data, .data, .data, .pinned], laidTests := true, laidLooks := .later }
def FnFieldsUptoCardSaid : Prop := Claim7.holds Tryd.pinned (.plain (OpenSpec.upto fnFieldsSpec)) fnFieldsUptoCard

/-- THE SECOND FORM's CARD OF 'laws.FnDoc'. -/
def fnDocUptoCard : Claim7 := { stood := { row := fnDocUptoRow, standIns := [], harness := (true, "326bae95607f7bea5770bff8292922761cfae8da930525765faf29b4716c5412"), looks := true }, kinds := [], alts := [], laidByText := true, laidKinds := [.data, .pinned], laidTests := true, laidLooks := .later }
def FnDocUptoCardSaid : Prop := Claim7.holds Tryd.pinned (.plain (OpenSpec.upto fnDocSpec)) fnDocUptoCard

/-- THE SECOND FORM's CARD OF 'laws.FnDocNum'. -/
def fnDocNumUptoCard : Claim7 := { stood := { row := fnDocNumUptoRow, standIns := [], harness := (true, "326bae95607f7bea5770bff8292922761cfae8da930525765faf29b4716c5412"), looks := true }, kinds := [], alts := [], laidByText := true, laidKinds := [.data, .pinned], laidTests := true, laidLooks := .later }
def FnDocNumUptoCardSaid : Prop := Claim7.holds Tryd.pinned (.plain (OpenSpec.upto fnDocNumSpec)) fnDocNumUptoCard

/-- THE SECOND FORM's CARD OF 'laws.FnDocTags'. -/
def fnDocTagsUptoCard : Claim7 := { stood := { row := fnDocTagsUptoRow, standIns := [], harness := (true, "326bae95607f7bea5770bff8292922761cfae8da930525765faf29b4716c5412"), looks := true }, kinds := [], alts := [], laidByText := true, laidKinds := [.data, .pinned], laidTests := true, laidLooks := .later }
def FnDocTagsUptoCardSaid : Prop := Claim7.holds Tryd.pinned (.plain (OpenSpec.upto fnDocTagsSpec)) fnDocTagsUptoCard

/-- THE SECOND FORM's CARD OF 'laws.FnFieldsMore'. -/
def fnFieldsMoreUptoCard : Claim7 := { stood := { row := fnFieldsMoreUptoRow, standIns := [], harness := (true, "326bae95607f7bea5770bff8292922761cfae8da930525765faf29b4716c5412"), looks := true }, kinds := [], alts := [], laidByText := true, laidKinds := [.data, .data, .data], laidTests := true, laidLooks := .later }
def FnFieldsMoreUptoCardSaid : Prop := Claim7.holds Tryd.pinned (.plain (OpenSpec.upto fnFieldsMoreSpec)) fnFieldsMoreUptoCard

/-- THE SECOND FORM's CARD OF 'laws.FnExactFieldsPut'. -/
def fnExactFieldsPutUptoCard : Claim7 := { stood := { row := fnExactFieldsPutUptoRow, standIns := [], harness := (true, "326bae95607f7bea5770bff8292922761cfae8da930525765faf29b4716c5412"), looks := true }, kinds := [], alts := [], laidByText := true, laidKinds := [.data, .data, .data], laidTests := true, laidLooks := .later }
def FnExactFieldsPutUptoCardSaid : Prop := Claim7.holds Tryd.pinned (.plain (OpenSpec.upto fnExactFieldsPutSpec)) fnExactFieldsPutUptoCard

/-- THE SECOND FORM's CARD OF 'laws.FnExactFieldsGet'. -/
def fnExactFieldsGetUptoCard : Claim7 := { stood := { row := fnExactFieldsGetUptoRow, standIns := [], harness := (true, "326bae95607f7bea5770bff8292922761cfae8da930525765faf29b4716c5412"), looks := true }, kinds := [], alts := [], laidByText := true, laidKinds := [.data, .pinned], laidTests := true, laidLooks := .later }
def FnExactFieldsGetUptoCardSaid : Prop := Claim7.holds Tryd.pinned (.plain (OpenSpec.upto fnExactFieldsGetSpec)) fnExactFieldsGetUptoCard

/-- THE SECOND FORM's CARD OF 'laws.FnExactDocNum'. -/
def fnExactDocNumUptoCard : Claim7 := { stood := { row := fnExactDocNumUptoRow, standIns := [], harness := (true, "326bae95607f7bea5770bff8292922761cfae8da930525765faf29b4716c5412"), looks := true }, kinds := [], alts := [], laidByText := true, laidKinds := [.data, .pinned], laidTests := true, laidLooks := .later }
def FnExactDocNumUptoCardSaid : Prop := Claim7.holds Tryd.pinned (.plain (OpenSpec.upto fnExactDocNumSpec)) fnExactDocNumUptoCard

/-- THE SECOND FORM's CARD OF 'laws.FnExactDocGet'. -/
def fnExactDocGetUptoCard : Claim7 := { stood := { row := fnExactDocGetUptoRow, standIns := [], harness := (true, "326bae95607f7bea5770bff8292922761cfae8da930525765faf29b4716c5412"), looks := true }, kinds := [], alts := [], laidByText := true, laidKinds := [.data, .pinned], laidTests := true, laidLooks := .later }
def FnExactDocGetUptoCardSaid : Prop := Claim7.holds Tryd.pinned (.plain (OpenSpec.upto fnExactDocGetSpec)) fnExactDocGetUptoCard
end Rows
end Go.Proofs.YtinniomeblkmeaaDoor
