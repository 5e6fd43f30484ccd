/-
  What the walks are told of slices of slices of bytes, and of slices of numbers.
-/
import Derived.Test.YtabemdmapadaoaaSB
namespace Go.Proofs.Ytabemdmapadaoaa
open Go.RowKit

/-- A value that is a slice of bytes. -/
def IsB (w : World) (v : Value) : Prop := ∃ ao cap bs, v = .slice ao (List.length bs) cap ∧ Has w ao bs ∧ (ao = none → cap = 0) ∧ bs.length ≤ cap
/-- A slice of len slices of bytes. -/
def IsRows (w : World) (a : Option Addr) (len : Nat) : Prop := ∀ i, i < len → ∃ b off v, a = some ⟨b, off, none⟩ ∧ b < w.heap.size ∧ w.cell? ⟨b, off + i, none⟩ = some v ∧ IsB w v
/-- A slice of len numbers. -/
def IsInts (w : World) (a : Option Addr) (len : Nat) : Prop := ∀ i, i < len → ∃ b off z, a = some ⟨b, off, none⟩ ∧ b < w.heap.size ∧ w.cell? ⟨b, off + i, none⟩ = some (.int .i64 z)

end Go.Proofs.Ytabemdmapadaoaa
