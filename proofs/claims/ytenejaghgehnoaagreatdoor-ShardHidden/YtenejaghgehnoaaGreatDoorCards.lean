/-
  DERIVED. GIVEN WITH THE SEED: THE CARDS: each row of YtenejaghgehnoaaGreatDoorRows.lean that lists a variable, with what it lists TIED to the program's text (the seventh form; the later family's looks); each row that meets fmt, with fmt's text TOLD by the authors' own Lean function (tested against real Go, not proved from fmt's source: count such statements apart). THE CARD IS WHAT COUNTS. Prove the row's statement (the work); the ties are given (YtenejaghgehnoaaGreatDoorTie.lean); close each card by the builder's one call (the guide's Derived/Test/ToyasCard.lean, 'card_holds'). Laid BY PROGRAM, IN A SANDBOX (cutbox-door.mjs). By AI agents, Wed Nov 11 2026. No macro, syntax, notation, axiom, sorry.
-/
import Derived.Test.YtenejaghgehnoaaGreatDoorRows
import GoSem.ClaimSeven
namespace Go.Proofs.YtenejaghgehnoaaGreatDoor
namespace Rows

/-- THE TIED CARD OF 'conclavelaw16.ShardNumbers'. -/
def shardNumbersCard : Claim7 := { stood := { row := shardNumbersRow, standIns := [], harness := (true, "5616f37f9c50260ba6db184a14e344f6a4afebe39ba66f269b9e1e96bb55140f"), looks := false }, kinds := [], alts := [], laidByText := true, laidKinds := [.data, .data, .data], laidTests := true, laidLooks := .later }
def ShardNumbersCardSaid : Prop := Claim7.holds Tryz.pinned (.plain (OpenSpec.ofChange shardNumbersSpec)) shardNumbersCard

/-- THE TIED CARD OF 'conclavelaw16.ShardPlays'. -/
def shardPlaysCard : Claim7 := { stood := { row := shardPlaysRow, standIns := [], harness := (true, "5616f37f9c50260ba6db184a14e344f6a4afebe39ba66f269b9e1e96bb55140f"), looks := false }, kinds := [], alts := [], laidByText := true, laidKinds := [.data, .data, .data], laidTests := true, laidLooks := .later }
def ShardPlaysCardSaid : Prop := Claim7.holds Tryz.pinned (.plain (OpenSpec.ofChange shardPlaysSpec)) shardPlaysCard

/-- THE TIED CARD OF 'conclavelaw16.ShardTame'. -/
def shardTameCard : Claim7 := { stood := { row := shardTameRow, standIns := [], harness := (true, "5616f37f9c50260ba6db184a14e344f6a4afebe39ba66f269b9e1e96bb55140f"), looks := false }, kinds := [], alts := [], laidByText := true, laidKinds := [.data, .data, .data], laidTests := true, laidLooks := .later }
def ShardTameCardSaid : Prop := Claim7.holds Tryz.pinned (.plain (OpenSpec.ofChange shardTameSpec)) shardTameCard

/-- THE TIED CARD OF 'conclavelaw16.ShardMoves'. -/
def shardMovesCard : Claim7 := { stood := { row := shardMovesRow, standIns := [], harness := (true, "5616f37f9c50260ba6db184a14e344f6a4afebe39ba66f269b9e1e96bb55140f"), looks := false }, kinds := [], alts := [], laidByText := true, laidKinds := [.data, .data, .data], laidTests := true, laidLooks := .later }
def ShardMovesCardSaid : Prop := Claim7.holds Tryz.pinned (.plain (OpenSpec.ofChange shardMovesSpec)) shardMovesCard

/-- THE TIED CARD OF 'conclavelaw16.ShardBytes'. -/
def shardBytesCard : Claim7 := { stood := { row := shardBytesRow, standIns := [], harness := (true, "5616f37f9c50260ba6db184a14e344f6a4afebe39ba66f269b9e1e96bb55140f"), looks := false }, kinds := [], alts := [], laidByText := true, laidKinds := [.data, .data, .data], laidTests := true, laidLooks := .later }
def ShardBytesCardSaid : Prop := Claim7.holds Tryz.pinned (.plain (OpenSpec.ofChange shardBytesSpec)) shardBytesCard

/-- THE TIED CARD OF 'conclavelaw16.ShardHidden'. -/
def shardHiddenCard : Claim7 := { stood := { row := shardHiddenRow, standIns := [], harness := (true, "5616f37f9c50260ba6db184a14e344f6a4afebe39ba66f269b9e1e96bb55140f"), looks := false }, kinds := [], alts := [], laidByText := true, laidKinds := [.data, .data, .data], laidTests := true, laidLooks := .later }
def ShardHiddenCardSaid : Prop := Claim7.holds Tryz.pinned (.plain (OpenSpec.ofChange shardHiddenSpec)) shardHiddenCard

/-- THE SECOND FORM's CARD OF 'conclavelaw16.ShardNumbers'. -/
def shardNumbersUptoCard : Claim7 := { stood := { row := shardNumbersUptoRow, standIns := [], harness := (true, "5616f37f9c50260ba6db184a14e344f6a4afebe39ba66f269b9e1e96bb55140f"), looks := false }, kinds := [], alts := [], laidByText := true, laidKinds := [.data, .data, .data], laidTests := true, laidLooks := .later }
def ShardNumbersUptoCardSaid : Prop := Claim7.holds Tryz.pinned (.plain (OpenSpec.upto shardNumbersSpec)) shardNumbersUptoCard

/-- THE SECOND FORM's CARD OF 'conclavelaw16.ShardPlays'. -/
def shardPlaysUptoCard : Claim7 := { stood := { row := shardPlaysUptoRow, standIns := [], harness := (true, "5616f37f9c50260ba6db184a14e344f6a4afebe39ba66f269b9e1e96bb55140f"), looks := false }, kinds := [], alts := [], laidByText := true, laidKinds := [.data, .data, .data], laidTests := true, laidLooks := .later }
def ShardPlaysUptoCardSaid : Prop := Claim7.holds Tryz.pinned (.plain (OpenSpec.upto shardPlaysSpec)) shardPlaysUptoCard

/-- THE SECOND FORM's CARD OF 'conclavelaw16.ShardTame'. -/
def shardTameUptoCard : Claim7 := { stood := { row := shardTameUptoRow, standIns := [], harness := (true, "5616f37f9c50260ba6db184a14e344f6a4afebe39ba66f269b9e1e96bb55140f"), looks := false }, kinds := [], alts := [], laidByText := true, laidKinds := [.data, .data, .data], laidTests := true, laidLooks := .later }
def ShardTameUptoCardSaid : Prop := Claim7.holds Tryz.pinned (.plain (OpenSpec.upto shardTameSpec)) shardTameUptoCard

/-- THE SECOND FORM's CARD OF 'conclavelaw16.ShardMoves'. -/
def shardMovesUptoCard : Claim7 := { stood := { row := shardMovesUptoRow, standIns := [], harness := (true, "5616f37f9c50260ba6db184a14e344f6a4afebe39ba66f269b9e1e96bb55140f"), looks := false }, kinds := [], alts := [], laidByText := true, laidKinds := [.data, .data, .data], laidTests := true, laidLooks := .later }
def ShardMovesUptoCardSaid : Prop := Claim7.holds Tryz.pinned (.plain (OpenSpec.upto shardMovesSpec)) shardMovesUptoCard

/-- THE SECOND FORM's CARD OF 'conclavelaw16.ShardBytes'. -/
def shardBytesUptoCard : Claim7 := { stood := { row := shardBytesUptoRow, standIns := [], harness := (true, "5616f37f9c50260ba6db184a14e344f6a4afebe39ba66f269b9e1e96bb55140f"), looks := false }, kinds := [], alts := [], laidByText := true, laidKinds := [.data, .data, .data], laidTests := true, laidLooks := .later }
def ShardBytesUptoCardSaid : Prop := Claim7.holds Tryz.pinned (.plain (OpenSpec.upto shardBytesSpec)) shardBytesUptoCard

/-- THE SECOND FORM's CARD OF 'conclavelaw16.ShardHidden'. -/
def shardHiddenUptoCard : Claim7 := { stood := { row := shardHiddenUptoRow, standIns := [], harness := (true, "5616f37f9c50260ba6db184a14e344f6a4afebe39ba66f269b9e1e96bb55140f"), looks := false }, kinds := [], alts := [], laidByText := true, laidKinds := [.data, .data, .data], laidTests := true, laidLooks := .later }
def ShardHiddenUptoCardSaid : Prop := Claim7.holds Tryz.pinned (.plain (OpenSpec.upto shardHiddenSpec)) shardHiddenUptoCard
end Rows
end Go.Proofs.YtenejaghgehnoaaGreatDoor
