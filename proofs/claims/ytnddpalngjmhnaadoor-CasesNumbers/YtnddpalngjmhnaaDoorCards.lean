/-
  DERIVED. GIVEN WITH THE SEED: THE CARDS: each row of YtnddpalngjmhnaaDoorRows.lean that lists a variable, with what it lists TIED to the program's text (the seventh form; the later family's looks); each row that meets fmt, with fmt's text TOLD by the authors' own Lean function (tested against real Go, not proved from fmt's source: count such statements apart). THE CARD IS WHAT COUNTS. Prove the row's statement (the work); the ties are given (YtnddpalngjmhnaaDoorTie.lean); close each card by the builder's one call (the guide's Derived/Test/ToyasCard.lean, 'card_holds'). Laid BY PROGRAM, IN A SANDBOX (cutbox-door.mjs). By AI agents, Wed Nov 11 2026. No macro, syntax, notation, axiom, sorry.
-/
import Derived.Test.YtnddpalngjmhnaaDoorRows
import GoSem.ClaimSeven
namespace Go.Proofs.YtnddpalngjmhnaaDoor
namespace Rows

/-- THE TIED CARD OF 'conclavelaw14.CasesNumbers'. -/
def casesNumbersCard : Claim7 := { stood := { row := casesNumbersRow, standIns := [], harness := (true, "1b5919c90b270c5fe5d6b71f7bee82e0d58d0282c70c204f5949e297d3d2dc65"), looks := false }, kinds := [], alts := [], laidByText := true, laidKinds := [.data, .data, .data], laidTests := true, laidLooks := .later }
def CasesNumbersCardSaid : Prop := Claim7.holds Tryd.pinned (.plain (OpenSpec.ofChange casesNumbersSpec)) casesNumbersCard

/-- THE TIED CARD OF 'conclavelaw14.CasesPlays'. -/
def casesPlaysCard : Claim7 := { stood := { row := casesPlaysRow, standIns := [], harness := (true, "1b5919c90b270c5fe5d6b71f7bee82e0d58d0282c70c204f5949e297d3d2dc65"), looks := false }, kinds := [], alts := [], laidByText := true, laidKinds := [.data, .data, .data], laidTests := true, laidLooks := .later }
def CasesPlaysCardSaid : Prop := Claim7.holds Tryd.pinned (.plain (OpenSpec.ofChange casesPlaysSpec)) casesPlaysCard

/-- THE TIED CARD OF 'conclavelaw14.CasesFits'. -/
def casesFitsCard : Claim7 := { stood := { row := casesFitsRow, standIns := [], harness := (true, "1b5919c90b270c5fe5d6b71f7bee82e0d58d0282c70c204f5949e297d3d2dc65"), looks := false }, kinds := [], alts := [], laidByText := true, laidKinds := [.data, .data, .data], laidTests := true, laidLooks := .later }
def CasesFitsCardSaid : Prop := Claim7.holds Tryd.pinned (.plain (OpenSpec.ofChange casesFitsSpec)) casesFitsCard

/-- THE TIED CARD OF 'conclavelaw14.CasesStays'. -/
def casesStaysCard : Claim7 := { stood := { row := casesStaysRow, standIns := [], harness := (true, "1b5919c90b270c5fe5d6b71f7bee82e0d58d0282c70c204f5949e297d3d2dc65"), looks := false }, kinds := [], alts := [], laidByText := true, laidKinds := [.data, .data, .data], laidTests := true, laidLooks := .later }
def CasesStaysCardSaid : Prop := Claim7.holds Tryd.pinned (.plain (OpenSpec.ofChange casesStaysSpec)) casesStaysCard

/-- THE TIED CARD OF 'conclavelaw14.CasesReady'. -/
def casesReadyCard : Claim7 := { stood := { row := casesReadyRow, standIns := [], harness := (true, "1b5919c90b270c5fe5d6b71f7bee82e0d58d0282c70c204f5949e297d3d2dc65"), looks := false }, kinds := [], alts := [], laidByText := true, laidKinds := [.data, .data, .data], laidTests := true, laidLooks := .later }
def CasesReadyCardSaid : Prop := Claim7.holds Tryd.pinned (.plain (OpenSpec.ofChange casesReadySpec)) casesReadyCard

/-- THE TIED CARD OF 'conclavelaw14.CasesKept'. -/
def casesKeptCard : Claim7 := { stood := { row := casesKeptRow, standIns := [], harness := (true, "1b5919c90b270c5fe5d6b71f7bee82e0d58d0282c70c204f5949e297d3d2dc65"), looks := false }, kinds := [], alts := [], laidByText := true, laidKinds := [.data, .data, .data], laidTests := true, laidLooks := .later }
def CasesKeptCardSaid : Prop := Claim7.holds Tryd.pinned (.plain (OpenSpec.ofChange casesKeptSpec)) casesKeptCard

/-- THE SECOND FORM's CARD OF 'conclavelaw14.CasesNumbers'. -/
def casesNumbersUptoCard : Claim7 := { stood := { row := casesNumbersUptoRow, standIns := [], harness := (true, "1b5919c90b270c5fe5d6b71f7bee82e0d58d0282c70c204f5949e297d3d2dc65"), looks := false }, kinds := [], alts := [], laidByText := true, laidKinds := [.data, .data, .data], laidTests := true, laidLooks := .later }
def CasesNumbersUptoCardSaid : Prop := Claim7.holds Tryd.pinned (.plain (OpenSpec.upto casesNumbersSpec)) casesNumbersUptoCard

/-- THE SECOND FORM's CARD OF 'conclavelaw14.CasesPlays'. -/
def casesPlaysUptoCard : Claim7 := { stood := { row := casesPlaysUptoRow, standIns := [], harness := (true, "1b5919c90b270c5fe5d6b71f7bee82e0d58d0282c70c204f5949e297d3d2dc65"), looks := false }, kinds := [], alts := [], laidByText := true, laidKinds := [.data, .data, .data], laidTests := true, laidLooks := .later }
def CasesPlaysUptoCardSaid : Prop := Claim7.holds Tryd.pinned (.plain (OpenSpec.upto casesPlaysSpec)) casesPlaysUptoCard

/-- THE SECOND FORM's CARD OF 'conclavelaw14.CasesFits'. -/
def casesFitsUptoCard : Claim7 := { stood := { row := casesFitsUptoRow, standIns := [], harness := (true, "1b5919c90b270c5fe5d6b71f7bee82e0d58d0282c70c204f5949e297d3d2dc65"), looks := false }, kinds := [], alts := [], laidByText := true, laidKinds := [.data, .data, .data], laidTests := true, laidLooks := .later }
def CasesFitsUptoCardSaid : Prop := Claim7.holds Tryd.pinned (.plain (OpenSpec.upto casesFitsSpec)) casesFitsUptoCard

/-- THE SECOND FORM's CARD OF 'conclavelaw14.CasesStays'. -/
def casesStaysUptoCard : Claim7 := { stood := { row := casesStaysUptoRow, standIns := [], harness := (true, "1b5919c90b270c5fe5d6b71f7bee82e0d58d0282c70c204f5949e297d3d2dc65"), looks := false }, kinds := [], alts := [], laidByText := true, laidKinds := [.data, .data, .data], laidTests := true, laidLooks := .later }
def CasesStaysUptoCardSaid : Prop := Claim7.holds Tryd.pinned (.plain (OpenSpec.upto casesStaysSpec)) casesStaysUptoCard

/-- THE SECOND FORM's CARD OF 'conclavelaw14.CasesReady'. -/
def casesReadyUptoCard : Claim7 := { stood := { row := casesReadyUptoRow, standIns := [], harness := (true, "1b5919c90b270c5fe5d6b71f7bee82e0d58d0282c70c204f5949e297d3d2dc65"), looks := false }, kinds := [], alts := [], laidByText := true, laidKinds := [.data, .data, .data], laidTests := true, laidLooks := .later }
def CasesReadyUptoCardSaid : Prop := Claim7.holds Tryd.pinned (.plain (OpenSpec.upto casesReadySpec)) casesReadyUptoCard

/-- THE SECOND FORM's CARD OF 'conclavelaw14.CasesKept'. -/
def casesKeptUptoCard : Claim7 := { stood := { row := casesKeptUptoRow, standIns := [], harness := (true, "1b5919c90b270c5fe5d6b71f7bee82e0d58d0282c70c204f5949e297d3d2dc65"), looks := false }, kinds := [], alts := [], laidByText := true, laidKinds := [.data, .data, .data], laidTests := true, laidLooks := .later }
def CasesKeptUptoCardSaid : Prop := Claim7.holds Tryd.pinned (.plain (OpenSpec.upto casesKeptSpec)) casesKeptUptoCard
end Rows
end Go.Proofs.YtnddpalngjmhnaaDoor
