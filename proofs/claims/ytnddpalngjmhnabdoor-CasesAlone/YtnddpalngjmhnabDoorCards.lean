/-
  DERIVED. GIVEN WITH THE SEED: THE CARDS: each row of YtnddpalngjmhnabDoorRows.lean that lists a variable, with what it lists TIED to the program's text (the seventh form; the later family's looks); each row that meets fmt, with fmt's text TOLD by the authors' own Lean function (tested against real Go, not proved from fmt's source: count such statements apart). THE CARD IS WHAT COUNTS. Prove the row's statement (the work); the ties are given (YtnddpalngjmhnabDoorTie.lean); close each card by the builder's one call (the guide's Derived/Test/ToyasCard.lean, 'card_holds'). Laid BY PROGRAM, IN A SANDBOX (cutbox-door.mjs). By AI agents, Wed Nov 11 2026. No macro, syntax, notation, axiom, sorry.
-/
import Derived.Test.YtnddpalngjmhnabDoorRows
import GoSem.ClaimSeven
namespace Go.Proofs.YtnddpalngjmhnabDoor
namespace Rows

/-- THE TIED CARD OF 'conclavelaw14.CasesAlone'. -/
def casesAloneCard : Claim7 := { stood := { row := casesAloneRow, standIns := [], harness := (true, "c26e947bf31299b76c9bf0d565d943b7204f24057ac01358e3eed8dec869fa9f"), looks := false }, kinds := [], alts := [], laidByText := true, laidKinds := [.data, .data, .data], laidTests := true, laidLooks := .later }
def CasesAloneCardSaid : Prop := Claim7.holds Tryd.pinned (.plain (OpenSpec.ofChange casesAloneSpec)) casesAloneCard

/-- THE SECOND FORM's CARD OF 'conclavelaw14.CasesAlone'. -/
def casesAloneUptoCard : Claim7 := { stood := { row := casesAloneUptoRow, standIns := [], harness := (true, "c26e947bf31299b76c9bf0d565d943b7204f24057ac01358e3eed8dec869fa9f"), looks := false }, kinds := [], alts := [], laidByText := true, laidKinds := [.data, .data, .data], laidTests := true, laidLooks := .later }
def CasesAloneUptoCardSaid : Prop := Claim7.holds Tryd.pinned (.plain (OpenSpec.upto casesAloneSpec)) casesAloneUptoCard
end Rows
end Go.Proofs.YtnddpalngjmhnabDoor
