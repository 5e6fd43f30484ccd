/-
  Slices of Asks, of numbers, of truths, that came in.
-/
import Derived.Test.YtmejeiadfcdogaaLMap
namespace Go.Proofs.Ytmejeiadfcdogaa
open Go.RowKit

/-- One Ask, plainly. -/
structure AskV where
  kind : Int
  n : Int
  s : List UInt8

/-- A slice of len Asks. -/
def IsAsks (w : World) (a : Option Addr) (len : Nat) : Prop := ∀ i, i < len → ∃ b off, ∃ x : AskV, a = some ⟨b, off, none⟩ ∧ b < w.heap.size ∧ w.cell? ⟨b, off + i * 3, none⟩ = some (.int .i64 x.kind) ∧ w.cell? ⟨b, off + i * 3 + 1, none⟩ = some (.int .i64 x.n) ∧ w.cell? ⟨b, off + i * 3 + 2, none⟩ = some (.string ⟨x.s.toArray⟩) ∧ x.s.length ≤ 140737488355328 ∧ Fit64 x.n

theorem ask_at {w : World} {a : Option Addr} {len i : Nat} (h : IsAsks w a len) (hi : i < len) : ∃ b off, ∃ x : AskV, a = some ⟨b, off, none⟩ ∧ b < w.heap.size ∧ Fit64 x.n ∧ ∀ p : Nat → Prop, p b → ∀ w', Kept p w w' → w'.cell? ⟨b, off + i * 3, none⟩ = some (.int .i64 x.kind) ∧ w'.cell? ⟨b, off + i * 3 + 1, none⟩ = some (.int .i64 x.n) ∧ w'.cell? ⟨b, off + i * 3 + 2, none⟩ = some (.string ⟨x.s.toArray⟩) := by
  obtain ⟨b, off, x, e, hb, c0, c1, c2, _, hn⟩ := h i hi
  exact ⟨b, off, x, e, hb, hn, fun p hp w' k => ⟨cell_kept k c0 hp, cell_kept k c1 hp, cell_kept k c2 hp⟩⟩

/-- A slice of len numbers that came in. -/
def IsInts (w : World) (a : Option Addr) (len : Nat) : Prop := ∀ i, i < len → ∃ b off z, a = some ⟨b, off, none⟩ ∧ b < w.heap.size ∧ w.cell? ⟨b, off + i, none⟩ = some (.int .i64 z)
theorem int_at {w : World} {a : Option Addr} {len i : Nat} (h : IsInts w a len) (hi : i < len) : ∃ b off z, a = some ⟨b, off, none⟩ ∧ ∀ w', Kept (fun _ => True) w w' → w'.cell? ⟨b, off + i, none⟩ = some (.int .i64 z) := by
  obtain ⟨b, off, z, e, _, c0⟩ := h i hi
  exact ⟨b, off, z, e, fun w' k => cell_kept k c0 trivial⟩

/-- A slice of len truths that came in. -/
def IsBools (w : World) (a : Option Addr) (len : Nat) (B : Nat → Bool) : Prop := 0 < len → ∃ b off, a = some ⟨b, off, none⟩ ∧ b < w.heap.size ∧ ∀ i, i < len → w.cell? ⟨b, off + i, none⟩ = some (.bool (B i))
theorem bool_at {w : World} {a : Option Addr} {len i : Nat} {B : Nat → Bool} (h : IsBools w a len B) (hi : i < len) : ∃ b off, a = some ⟨b, off, none⟩ ∧ ∀ w', Kept (fun _ => True) w w' → w'.cell? ⟨b, off + i, none⟩ = some (.bool (B i)) := by
  obtain ⟨b, off, e, _, c⟩ := h (by omega)
  exact ⟨b, off, e, fun w' k => cell_kept k (c i hi) trivial⟩

/-- An Ask in a variable. -/
structure Tri (w : World) (X : Nat) (kind n : Int) (s : List UInt8) : Prop where
  c0 : w.cell? ⟨X, 0, none⟩ = some (.int .i64 kind)
  c1 : w.cell? ⟨X, 1, none⟩ = some (.int .i64 n)
  c2 : w.cell? ⟨X, 2, none⟩ = some (.string ⟨s.toArray⟩)
theorem tri_cell {w : World} {X : Nat} {kind n : Int} {s : List UInt8} {t : TypeId} {fr : Nat × Nat} (h : w.heap[X]? = some (.cells #[.int .i64 kind, .int .i64 n, .string ⟨s.toArray⟩] t fr)) : Tri w X kind n s :=
  ⟨by simp [World.cell?, h], by simp [World.cell?, h], by simp [World.cell?, h]⟩
theorem Tri.kept {p : Nat → Prop} {w w' : World} {X : Nat} {kind n : Int} {s : List UInt8} (h : Tri w X kind n s) (k : Kept p w w') (hp : p X) : Tri w' X kind n s :=
  ⟨cell_kept k h.c0 hp, cell_kept k h.c1 hp, cell_kept k h.c2 hp⟩

end Go.Proofs.Ytmejeiadfcdogaa
