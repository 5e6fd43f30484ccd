/-
  What the walk is told of a slice of Asks.
-/
import Derived.Test.YtabemdmapadaoaaDRows
namespace Go.Proofs.Ytabemdmapadaoaa
open Go.RowKit

/-- A slice of len Asks. -/
def IsAsks (w : World) (a : Option Addr) (len : Nat) : Prop := ∀ i, i < len → ∃ b off kind n v, a = some ⟨b, off, none⟩ ∧ b < w.heap.size ∧ w.cell? ⟨b, off + i * 3, none⟩ = some (.int .i64 kind) ∧ w.cell? ⟨b, off + i * 3 + 1, none⟩ = some (.int .i64 n) ∧ w.cell? ⟨b, off + i * 3 + 2, none⟩ = some v ∧ IsB w v

end Go.Proofs.Ytabemdmapadaoaa
