/-
  A slice of Asks (two numbers and a text) that came in.
-/
import Derived.Test.YtjobddbcalafhaaWKnown
namespace Go.Proofs.Ytjobddbcalafhaa
open Go.RowKit

/-- One Ask, plainly. -/
structure AskV where
  kind : Int
  n : Int
  s : List UInt8

/-- A slice of len Asks. -/
def IsAsks (w : World) (a : Option Addr) (len : Nat) : Prop := ∀ i, i < len → ∃ b off, ∃ x : AskV, a = some ⟨b, off, none⟩ ∧ b < w.heap.size ∧ w.cell? ⟨b, off + i * 3, none⟩ = some (.int .i64 x.kind) ∧ w.cell? ⟨b, off + i * 3 + 1, none⟩ = some (.int .i64 x.n) ∧ w.cell? ⟨b, off + i * 3 + 2, none⟩ = some (.string ⟨x.s.toArray⟩) ∧ x.s.length ≤ 140737488355328

theorem cell_kept {p : Nat → Prop} {w w' : World} {a : Addr} {v : Value} (k : Kept p w w') (h : w.cell? a = some v) (hp : p a.block) : w'.cell? a = some v :=
  (World.cell?_of_block (w := w) (k.block a.block (World.block_lt_of_cell? w _ h) hp)).trans h

/-- An Ask in a variable. -/
structure Tri (w : World) (X : Nat) (kind n : Int) (s : List UInt8) : Prop where
  c0 : w.cell? ⟨X, 0, none⟩ = some (.int .i64 kind)
  c1 : w.cell? ⟨X, 1, none⟩ = some (.int .i64 n)
  c2 : w.cell? ⟨X, 2, none⟩ = some (.string ⟨s.toArray⟩)
theorem tri_cell {w : World} {X : Nat} {kind n : Int} {s : List UInt8} {t : TypeId} {fr : Nat × Nat} (h : w.heap[X]? = some (.cells #[.int .i64 kind, .int .i64 n, .string ⟨s.toArray⟩] t fr)) : Tri w X kind n s :=
  ⟨by simp [World.cell?, h], by simp [World.cell?, h], by simp [World.cell?, h]⟩
theorem Tri.kept {p : Nat → Prop} {w w' : World} {X : Nat} {kind n : Int} {s : List UInt8} (h : Tri w X kind n s) (k : Kept p w w') (hp : p X) : Tri w' X kind n s :=
  ⟨cell_kept k h.c0 hp, cell_kept k h.c1 hp, cell_kept k h.c2 hp⟩

theorem wbytes_short : ∀ (fs : List (Bool × List UInt8)), (∀ x ∈ fs, x.2.length ≤ 200) → (wbytes fs).length ≤ fs.length * 209
  | [], _ => by simp [wbytes]
  | x :: fs, h => by
    have h1 := wbytes_short fs (fun y hy => h y (.tail _ hy))
    have h2 := h x (.head _)
    have e : wbytes (x :: fs) = frameOf x.1 x.2 ++ wbytes fs := rfl
    rw [e, List.length_append, frameOf_length, List.length_cons]
    omega
theorem wbytes_snoc (fs : List (Bool × List UInt8)) (f : Bool) (r : List UInt8) : wbytes (fs ++ [(f, r)]) = wbytes fs ++ frameOf f r := by simp [wbytes]
theorem state_snoc (fs : List (Bool × List UInt8)) (f : Bool) (r : List UInt8) : stateFrom [] (fs ++ [(f, r)]) = (if f = true then [] else stateFrom [] fs) ++ [r] := by simp [stateFrom]
theorem wbytes_scan (fs : List (Bool × List UInt8)) (hf : Fits fs) : scanOf (wbytes fs) = (stateFrom [] fs, (wbytes fs).length) := by
  have := scan_written fs [] hf (by kernel_rfl)
  simpa using this
theorem wbytes_front (fs : List (Bool × List UInt8)) (k : Nat) : (wbytes fs).take (wbytes (fs.take k)).length = wbytes (fs.take k) := by
  have e : wbytes fs = wbytes (fs.take k) ++ wbytes (fs.drop k) := by
    unfold wbytes
    rw [← List.flatMap_append, List.take_append_drop]
  rw [e, List.take_left]
theorem state_few : ∀ (fs : List (Bool × List UInt8)) (out : List (List UInt8)), (stateFrom out fs).length ≤ out.length + fs.length
  | [], out => by simp [stateFrom]
  | x :: fs, out => by
    have := state_few fs ((if x.1 = true then [] else out) ++ [x.2])
    have e : stateFrom out (x :: fs) = stateFrom ((if x.1 = true then [] else out) ++ [x.2]) fs := rfl
    rw [e]
    have h2 : ((if x.1 = true then [] else out) ++ [x.2]).length ≤ out.length + 1 := by split <;> simp
    simp only [List.length_cons]
    omega

/-- Bytes in a block by themselves, as they are looked at. -/
theorem View.block {w : World} {D : Nat} {bs : List UInt8} (h : w.heap[D]? = some (.cells (cells bs).toArray 5 (0, 0))) (hl : bs.length ≤ 1099511627776) : View w (some ⟨D, 0, none⟩) bs.length bs.length bs :=
  View.own (b := 0) ⟨by simp [cells_length], .inr ⟨D, bs.length, (cells bs).toArray, rfl, Nat.zero_le _, h, Nat.le_refl _, by unfold maxLen; omega, by simp [cells_length], by rw [List.take_of_length_le (by simp [cells_length])]⟩⟩ rfl

end Go.Proofs.Ytjobddbcalafhaa
