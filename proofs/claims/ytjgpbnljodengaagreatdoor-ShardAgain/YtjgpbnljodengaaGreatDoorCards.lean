/-
  DERIVED. GIVEN WITH THE SEED: THE CARDS: each row of YtjgpbnljodengaaGreatDoorRows.lean that lists a variable, with what it lists TIED to the program's text (the seventh form; the later family's looks); each row that meets fmt, with fmt's text TOLD by the authors' own Lean function (tested against real Go, not proved from fmt's source: count such statements apart). THE CARD IS WHAT COUNTS. Prove the row's statement (the work); the ties are given (YtjgpbnljodengaaGreatDoorTie.lean); close each card by the builder's one call (the guide's Derived/Test/ToyasCard.lean, 'card_holds'). Laid BY PROGRAM, IN A SANDBOX (cutbox-door.mjs). By AI agents, Wed Nov 11 2026. No macro, syntax, notation, axiom, sorry.
-/
import Derived.Test.YtjgpbnljodengaaGreatDoorRows
import GoSem.ClaimSeven
namespace Go.Proofs.YtjgpbnljodengaaGreatDoor
namespace Rows

/-- THE TIED CARD OF 'conclavelaw16.ShardAgain'. -/
def shardAgainCard : Claim7 := { stood := { row := shardAgainRow, standIns := [], harness := (true, "02512be454a02e2aa02f2a1024267122d7d67a411a79b654582f1f76e752eb31"), looks := false }, kinds := [], alts := [], laidByText := true, laidKinds := [.data, .data, .data], laidTests := true, laidLooks := .later }
def ShardAgainCardSaid : Prop := Claim7.holds Tryz.pinned (.plain (OpenSpec.ofChange shardAgainSpec)) shardAgainCard

/-- THE TIED CARD OF 'conclavelaw16.ShardLocked'. -/
def shardLockedCard : Claim7 := { stood := { row := shardLockedRow, standIns := [], harness := (true, "02512be454a02e2aa02f2a1024267122d7d67a411a79b654582f1f76e752eb31"), looks := false }, kinds := [], alts := [], laidByText := true, laidKinds := [.data, .data, .data], laidTests := true, laidLooks := .later }
def ShardLockedCardSaid : Prop := Claim7.holds Tryz.pinned (.plain (OpenSpec.ofChange shardLockedSpec)) shardLockedCard

/-- THE TIED CARD OF 'conclavelaw16.ShardCopies'. -/
def shardCopiesCard : Claim7 := { stood := { row := shardCopiesRow, standIns := [], harness := (true, "02512be454a02e2aa02f2a1024267122d7d67a411a79b654582f1f76e752eb31"), looks := false }, kinds := [], alts := [], laidByText := true, laidKinds := [.data, .data, .data], laidTests := true, laidLooks := .later }
def ShardCopiesCardSaid : Prop := Claim7.holds Tryz.pinned (.plain (OpenSpec.ofChange shardCopiesSpec)) shardCopiesCard

/-- THE TIED CARD OF 'conclavelaw16.ShardKept'. -/
def shardKeptCard : Claim7 := { stood := { row := shardKeptRow, standIns := [], harness := (true, "02512be454a02e2aa02f2a1024267122d7d67a411a79b654582f1f76e752eb31"), looks := false }, kinds := [], alts := [], laidByText := true, laidKinds := [.data, .data, .data], laidTests := true, laidLooks := .later }
def ShardKeptCardSaid : Prop := Claim7.holds Tryz.pinned (.plain (OpenSpec.ofChange shardKeptSpec)) shardKeptCard

/-- THE SECOND FORM's CARD OF 'conclavelaw16.ShardAgain'. -/
def shardAgainUptoCard : Claim7 := { stood := { row := shardAgainUptoRow, standIns := [], harness := (true, "02512be454a02e2aa02f2a1024267122d7d67a411a79b654582f1f76e752eb31"), looks := false }, kinds := [], alts := [], laidByText := true, laidKinds := [.data, .data, .data], laidTests := true, laidLooks := .later }
def ShardAgainUptoCardSaid : Prop := Claim7.holds Tryz.pinned (.plain (OpenSpec.upto shardAgainSpec)) shardAgainUptoCard

/-- THE SECOND FORM's CARD OF 'conclavelaw16.ShardLocked'. -/
def shardLockedUptoCard : Claim7 := { stood := { row := shardLockedUptoRow, standIns := [], harness := (true, "02512be454a02e2aa02f2a1024267122d7d67a411a79b654582f1f76e752eb31"), looks := false }, kinds := [], alts := [], laidByText := true, laidKinds := [.data, .data, .data], laidTests := true, laidLooks := .later }
def ShardLockedUptoCardSaid : Prop := Claim7.holds Tryz.pinned (.plain (OpenSpec.upto shardLockedSpec)) shardLockedUptoCard

/-- THE SECOND FORM's CARD OF 'conclavelaw16.ShardCopies'. -/
def shardCopiesUptoCard : Claim7 := { stood := { row := shardCopiesUptoRow, standIns := [], harness := (true, "02512be454a02e2aa02f2a1024267122d7d67a411a79b654582f1f76e752eb31"), looks := false }, kinds := [], alts := [], laidByText := true, laidKinds := [.data, .data, .data], laidTests := true, laidLooks := .later }
def ShardCopiesUptoCardSaid : Prop := Claim7.holds Tryz.pinned (.plain (OpenSpec.upto shardCopiesSpec)) shardCopiesUptoCard

/-- THE SECOND FORM's CARD OF 'conclavelaw16.ShardKept'. -/
def shardKeptUptoCard : Claim7 := { stood := { row := shardKeptUptoRow, standIns := [], harness := (true, "02512be454a02e2aa02f2a1024267122d7d67a411a79b654582f1f76e752eb31"), looks := false }, kinds := [], alts := [], laidByText := true, laidKinds := [.data, .data, .data], laidTests := true, laidLooks := .later }
def ShardKeptUptoCardSaid : Prop := Claim7.holds Tryz.pinned (.plain (OpenSpec.upto shardKeptSpec)) shardKeptUptoCard
end Rows
end Go.Proofs.YtjgpbnljodengaaGreatDoor
