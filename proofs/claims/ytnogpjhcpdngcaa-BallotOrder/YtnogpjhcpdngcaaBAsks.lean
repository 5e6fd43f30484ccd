/-
  What the walks are told of a slice of Asks.
-/
import Derived.Test.YtnogpjhcpdngcaaBPlain
namespace Go.Proofs.Ytnogpjhcpdngcaa
open Go.RowKit

/-- One Ask, plainly. -/
structure AskV where
  kind : Int
  slot : Int
  r : Int
  n : Int
  s : ByteArray

/-- A slice of len Asks. -/
def IsAsks (w : World) (a : Option Addr) (len : Nat) : Prop := ∀ i, i < len → ∃ b off, ∃ x : AskV, a = some ⟨b, off, none⟩ ∧ b < w.heap.size ∧ w.cell? ⟨b, off + i * 5, none⟩ = some (.int .i64 x.kind) ∧ w.cell? ⟨b, off + i * 5 + 1, none⟩ = some (.int .i64 x.slot) ∧ w.cell? ⟨b, off + i * 5 + 2, none⟩ = some (.int .i64 x.r) ∧ w.cell? ⟨b, off + i * 5 + 3, none⟩ = some (.int .i64 x.n) ∧ w.cell? ⟨b, off + i * 5 + 4, none⟩ = some (.string x.s) ∧ x.s.size ≤ 140737488355328 ∧ (-9223372036854775808 ≤ x.r ∧ x.r ≤ 9223372036854775807) ∧ (-9223372036854775808 ≤ x.n ∧ x.n ≤ 9223372036854775807)

end Go.Proofs.Ytnogpjhcpdngcaa
