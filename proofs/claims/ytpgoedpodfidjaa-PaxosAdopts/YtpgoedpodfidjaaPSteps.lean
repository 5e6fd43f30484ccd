/-
  What the walks are told of slices of numbers and of steps.
-/
import Derived.Test.YtpgoedpodfidjaaPBals
namespace Go.Proofs.Ytpgoedpodfidjaa
open Go.RowKit

/-- A slice of len numbers that came in. -/
def IsInts (w : World) (a : Option Addr) (len : Nat) : Prop := ∀ i, i < len → ∃ b off z, a = some ⟨b, off, none⟩ ∧ b < w.heap.size ∧ w.cell? ⟨b, off + i, none⟩ = some (.int .i64 z)
theorem int_at {w : World} {a : Option Addr} {len i : Nat} (h : IsInts w a len) (hi : i < len) : ∃ b off z, a = some ⟨b, off, none⟩ ∧ ∀ w', Kept (fun _ => True) w w' → w'.cell? ⟨b, off + i, none⟩ = some (.int .i64 z) := by
  obtain ⟨b, off, z, e, _, c0⟩ := h i hi
  exact ⟨b, off, z, e, fun w' k => cell_kept k c0 trivial⟩

/-- A slice of len steps that came in. -/
def IsSteps (w : World) (a : Option Addr) (len : Nat) : Prop := ∀ i, i < len → ∃ b off k p n s, a = some ⟨b, off, none⟩ ∧ b < w.heap.size ∧ w.cell? ⟨b, off + i * 4, none⟩ = some (.int .i64 k) ∧ w.cell? ⟨b, off + i * 4 + 1, none⟩ = some (.int .i64 p) ∧ w.cell? ⟨b, off + i * 4 + 2, none⟩ = some (.int .i64 n) ∧ w.cell? ⟨b, off + i * 4 + 3, none⟩ = some (.int .i64 s)
theorem step_at {w : World} {a : Option Addr} {len i : Nat} (h : IsSteps w a len) (hi : i < len) : ∃ b off k p n s, a = some ⟨b, off, none⟩ ∧ ∀ w', Kept (fun _ => True) w w' → w'.cell? ⟨b, off + i * 4, none⟩ = some (.int .i64 k) ∧ w'.cell? ⟨b, off + i * 4 + 1, none⟩ = some (.int .i64 p) ∧ w'.cell? ⟨b, off + i * 4 + 2, none⟩ = some (.int .i64 n) ∧ w'.cell? ⟨b, off + i * 4 + 3, none⟩ = some (.int .i64 s) := by
  obtain ⟨b, off, k, p, n, s, e, _, c0, c1, c2, c3⟩ := h i hi
  exact ⟨b, off, k, p, n, s, e, fun w' q => ⟨cell_kept q c0 trivial, cell_kept q c1 trivial, cell_kept q c2 trivial, cell_kept q c3 trivial⟩⟩

end Go.Proofs.Ytpgoedpodfidjaa
