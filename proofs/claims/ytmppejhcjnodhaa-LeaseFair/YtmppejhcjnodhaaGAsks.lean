/-
  Slices of Asks, of numbers, that came in.
-/
import Derived.Test.YtmppejhcjnodhaaG2
namespace Go.Proofs.Ytmppejhcjnodhaa
open Go.RowKit

/-- A number that fits an int. -/
def Fit64 (n : Int) : Prop := -9223372036854775808 ≤ n ∧ n ≤ 9223372036854775807

/-- A slice of len numbers that came in. -/
def IsInts (w : World) (a : Option Addr) (len : Nat) : Prop := ∀ i, i < len → ∃ b off z, a = some ⟨b, off, none⟩ ∧ b < w.heap.size ∧ w.cell? ⟨b, off + i, none⟩ = some (.int .i64 z) ∧ Fit64 z
theorem int_at {w : World} {a : Option Addr} {len i : Nat} (h : IsInts w a len) (hi : i < len) : ∃ b off z, a = some ⟨b, off, none⟩ ∧ Fit64 z ∧ ∀ w', Kept (fun _ => True) w w' → w'.cell? ⟨b, off + i, none⟩ = some (.int .i64 z) := by
  obtain ⟨b, off, z, e, _, c0, hz⟩ := h i hi
  exact ⟨b, off, z, e, hz, fun w' k => cell_kept k c0 trivial⟩

/-- One Ask, plainly. -/
structure AskV where
  kind : Int
  node : Int
  now : Int
  n : Int

/-- A slice of len Asks. -/
def IsAsks (w : World) (a : Option Addr) (len : Nat) : Prop := ∀ i, i < len → ∃ b off, ∃ x : AskV, a = some ⟨b, off, none⟩ ∧ w.cell? ⟨b, off + i * 4, none⟩ = some (.int .i64 x.kind) ∧ w.cell? ⟨b, off + i * 4 + 1, none⟩ = some (.int .i64 x.node) ∧ w.cell? ⟨b, off + i * 4 + 2, none⟩ = some (.int .i64 x.now) ∧ w.cell? ⟨b, off + i * 4 + 3, none⟩ = some (.int .i64 x.n)
theorem ask_at {w : World} {a : Option Addr} {len i : Nat} (h : IsAsks w a len) (hi : i < len) : ∃ b off, ∃ x : AskV, a = some ⟨b, off, none⟩ ∧ ∀ w', Kept (fun _ => True) w w' → w'.cell? ⟨b, off + i * 4, none⟩ = some (.int .i64 x.kind) ∧ w'.cell? ⟨b, off + i * 4 + 1, none⟩ = some (.int .i64 x.node) ∧ w'.cell? ⟨b, off + i * 4 + 2, none⟩ = some (.int .i64 x.now) ∧ w'.cell? ⟨b, off + i * 4 + 3, none⟩ = some (.int .i64 x.n) := by
  obtain ⟨b, off, x, e, c0, c1, c2, c3⟩ := h i hi
  exact ⟨b, off, x, e, fun w' k => ⟨cell_kept k c0 trivial, cell_kept k c1 trivial, cell_kept k c2 trivial, cell_kept k c3 trivial⟩⟩

/-- An Ask in a variable. -/
structure Quad (w : World) (X : Nat) (kind node now n : Int) : Prop where
  c0 : w.cell? ⟨X, 0, none⟩ = some (.int .i64 kind)
  c1 : w.cell? ⟨X, 1, none⟩ = some (.int .i64 node)
  c2 : w.cell? ⟨X, 2, none⟩ = some (.int .i64 now)
  c3 : w.cell? ⟨X, 3, none⟩ = some (.int .i64 n)
theorem quad_cell {w : World} {X : Nat} {kind node now n : Int} {t : TypeId} {fr : Nat × Nat} (h : w.heap[X]? = some (.cells #[.int .i64 kind, .int .i64 node, .int .i64 now, .int .i64 n] t fr)) : Quad w X kind node now n :=
  ⟨by simp [World.cell?, h], by simp [World.cell?, h], by simp [World.cell?, h], by simp [World.cell?, h]⟩
theorem Quad.kept {p : Nat → Prop} {w w' : World} {X : Nat} {kind node now n : Int} (h : Quad w X kind node now n) (k : Kept p w w') (hp : p X) : Quad w' X kind node now n :=
  ⟨cell_kept k h.c0 hp, cell_kept k h.c1 hp, cell_kept k h.c2 hp, cell_kept k h.c3 hp⟩

end Go.Proofs.Ytmppejhcjnodhaa
