/-
  Slices of Asks, of numbers, that came in.
-/
import Derived.Test.YtmiccehdljammaaEB
namespace Go.Proofs.Ytmiccehdljammaa
open Go.RowKit

/-- A number that fits an int. -/
def Fit64 (n : Int) : Prop := -9223372036854775808 ≤ n ∧ n ≤ 9223372036854775807

/-- A slice of len numbers that came in. -/
def IsInts (w : World) (a : Option Addr) (len : Nat) : Prop := ∀ i, i < len → ∃ b off z, a = some ⟨b, off, none⟩ ∧ b < w.heap.size ∧ w.cell? ⟨b, off + i, none⟩ = some (.int .i64 z) ∧ Fit64 z
theorem int_at {w : World} {a : Option Addr} {len i : Nat} (h : IsInts w a len) (hi : i < len) : ∃ b off z, a = some ⟨b, off, none⟩ ∧ Fit64 z ∧ ∀ w', Kept (fun _ => True) w w' → w'.cell? ⟨b, off + i, none⟩ = some (.int .i64 z) := by
  obtain ⟨b, off, z, e, _, c0, hz⟩ := h i hi
  exact ⟨b, off, z, e, hz, fun w' k => cell_kept k c0 trivial⟩

/-- One Ask, plainly. -/
structure AskV where
  kind : Int
  id : Int
  c : List UInt8
  r : List UInt8

/-- A slice of len Asks, whose texts are of m letters at most. -/
def IsAsks (w : World) (a : Option Addr) (len m : Nat) : Prop := ∀ i, i < len → ∃ b off, ∃ x : AskV, a = some ⟨b, off, none⟩ ∧ b < w.heap.size ∧ w.cell? ⟨b, off + i * 4, none⟩ = some (.int .i64 x.kind) ∧ w.cell? ⟨b, off + i * 4 + 1, none⟩ = some (.int .i64 x.id) ∧ w.cell? ⟨b, off + i * 4 + 2, none⟩ = some (.string ⟨x.c.toArray⟩) ∧ w.cell? ⟨b, off + i * 4 + 3, none⟩ = some (.string ⟨x.r.toArray⟩) ∧ Fit64 x.id ∧ x.c.length ≤ m ∧ x.r.length ≤ m
theorem ask_at {w : World} {a : Option Addr} {len m i : Nat} (h : IsAsks w a len m) (hi : i < len) : ∃ b off, ∃ x : AskV, a = some ⟨b, off, none⟩ ∧ (Fit64 x.id ∧ x.c.length ≤ m ∧ x.r.length ≤ m) ∧ ∀ w', Kept (fun _ => True) w w' → w'.cell? ⟨b, off + i * 4, none⟩ = some (.int .i64 x.kind) ∧ w'.cell? ⟨b, off + i * 4 + 1, none⟩ = some (.int .i64 x.id) ∧ w'.cell? ⟨b, off + i * 4 + 2, none⟩ = some (.string ⟨x.c.toArray⟩) ∧ w'.cell? ⟨b, off + i * 4 + 3, none⟩ = some (.string ⟨x.r.toArray⟩) := by
  obtain ⟨b, off, x, e, _, c0, c1, c2, c3, hx⟩ := h i hi
  exact ⟨b, off, x, e, hx, fun w' k => ⟨cell_kept k c0 trivial, cell_kept k c1 trivial, cell_kept k c2 trivial, cell_kept k c3 trivial⟩⟩

/-- An Ask in a variable. -/
structure Quad (w : World) (X : Nat) (kind id : Int) (c r : List UInt8) : Prop where
  c0 : w.cell? ⟨X, 0, none⟩ = some (.int .i64 kind)
  c1 : w.cell? ⟨X, 1, none⟩ = some (.int .i64 id)
  c2 : w.cell? ⟨X, 2, none⟩ = some (.string ⟨c.toArray⟩)
  c3 : w.cell? ⟨X, 3, none⟩ = some (.string ⟨r.toArray⟩)
theorem quad_cell {w : World} {X : Nat} {kind id : Int} {c r : List UInt8} {t : TypeId} {fr : Nat × Nat} (h : w.heap[X]? = some (.cells #[.int .i64 kind, .int .i64 id, .string ⟨c.toArray⟩, .string ⟨r.toArray⟩] t fr)) : Quad w X kind id c r :=
  ⟨by simp [World.cell?, h], by simp [World.cell?, h], by simp [World.cell?, h], by simp [World.cell?, h]⟩
theorem Quad.kept {p : Nat → Prop} {w w' : World} {X : Nat} {kind id : Int} {c r : List UInt8} (h : Quad w X kind id c r) (k : Kept p w w') (hp : p X) : Quad w' X kind id c r :=
  ⟨cell_kept k h.c0 hp, cell_kept k h.c1 hp, cell_kept k h.c2 hp, cell_kept k h.c3 hp⟩

/-- A slice of texts that came in. -/
def IsStrs (w : World) (a : Option Addr) (ss : List (List UInt8)) : Prop :=
  0 < ss.length → ∃ b off, a = some ⟨b, off, none⟩ ∧ b < w.heap.size ∧ ∀ i (h : i < ss.length), w.cell? ⟨b, off + i, none⟩ = some (.string ⟨(ss[i]).toArray⟩)
theorem str_at {w : World} {a : Option Addr} {ss : List (List UInt8)} {i : Nat} (h : IsStrs w a ss) (hi : i < ss.length) : ∃ b off, a = some ⟨b, off, none⟩ ∧ ∀ w', Kept (fun _ => True) w w' → w'.cell? ⟨b, off + i, none⟩ = some (.string ⟨(ss[i]).toArray⟩) := by
  obtain ⟨b, off, e, _, c⟩ := h (by omega)
  exact ⟨b, off, e, fun w' k => cell_kept k (c i hi) trivial⟩

end Go.Proofs.Ytmiccehdljammaa
