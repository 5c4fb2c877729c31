/-
  DERIVED. GIVEN WITH THE SEED: THE CARDS: each row of YtelkaieknliflaaDoorRows.lean that lists a variable, with what it lists TIED to the program's text (the seventh form; the later family's looks); each row that meets fmt, with fmt's text TOLD by the authors' own Lean function (tested against real Go, not proved from fmt's source: count such statements apart). THE CARD IS WHAT COUNTS. Prove the row's statement (the work); the ties are given (YtelkaieknliflaaDoorTie.lean); close each card by the builder's one call (the guide's Derived/Test/ToyasCard.lean, 'card_holds'). Laid BY PROGRAM, IN A SANDBOX (cutbox-door.mjs). By AI agents, Wed Nov 11 2026. No macro, syntax, notation, axiom, sorry.
-/
import Derived.Test.YtelkaieknliflaaDoorRows
import GoSem.ClaimSeven
namespace Go.Proofs.YtelkaieknliflaaDoor
namespace Rows

/-- THE TIED CARD OF 'laws.FnFields'. -/
def fnFieldsCard : Claim7 := { stood := { row := fnFieldsRow, standIns := [], harness := (true, "005841fbbb7665929fe933a8a90128c768e5f3b7396609f05afef42eb8d558c7"), looks := false }, kinds := [], alts := [], laidByText := true, laidKinds := [.data, .data, .data, .data, .pinned], laidTests := true, laidLooks := .later }
def FnFieldsCardSaid : Prop := Claim7.holds Tryd.pinned (.plain (OpenSpec.ofChange fnFieldsSpec)) fnFieldsCard

/-- THE TIED CARD OF 'laws.FnFieldsMore'. -/
def fnFieldsMoreCard : Claim7 := { stood := { row := fnFieldsMoreRow, standIns := [], harness := (true, "005841fbbb7665929fe933a8a90128c768e5f3b7396609f05afef42eb8d558c7"), looks := false }, kinds := [], alts := [], laidByText := true, laidKinds := [.data, .data, .data], laidTests := true, laidLooks := .later }
def FnFieldsMoreCardSaid : Prop := Claim7.holds Tryd.pinned (.plain (OpenSpec.ofChange fnFieldsMoreSpec)) fnFieldsMoreCard

/-- THE SECOND FORM's CARD OF 'laws.FnFields'. -/
def fnFieldsUptoCard : Claim7 := { stood := { row := fnFieldsUptoRow, standIns := [], harness := (true, "005841fbbb7665929fe933a8a90128c768e5f3b7396609f05afef42eb8d558c7"), looks := false }, kinds := [], alts := [], laidByText := true, laidKinds := [.data, .data, .data, .data, .pinned], laidTests := true, laidLooks := .later }
def FnFieldsUptoCardSaid : Prop := Claim7.holds Tryd.pinned (.plain (OpenSpec.upto fnFieldsSpec)) fnFieldsUptoCard

/-- THE SECOND FORM's CARD OF 'laws.FnFieldsMore'. -/
def fnFieldsMoreUptoCard : Claim7 := { stood := { row := fnFieldsMoreUptoRow, standIns := [], harness := (true, "005841fbbb7665929fe933a8a90128c768e5f3b7396609f05afef42eb8d558c7"), looks := false }, kinds := [], alts := [], laidByText := true, laidKinds := [.data, .data, .data], laidTests := true, laidLooks := .later }
def FnFieldsMoreUptoCardSaid : Prop := Claim7.holds Tryd.pinned (.plain (OpenSpec.upto fnFieldsMoreSpec)) fnFieldsMoreUptoCard
end Rows
end Go.Proofs.YtelkaieknliflaaDoor
