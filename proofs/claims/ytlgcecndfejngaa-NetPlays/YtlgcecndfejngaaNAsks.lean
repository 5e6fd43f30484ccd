/-
  What the walks are told of a slice of Asks; an array of truths.
-/
import Derived.Test.YtlgcecndfejngaaNW
import Derived.Laws.Rows
import Derived.Laws.Tables
import Derived.Laws.World
import Derived.Deep.WholeRow
namespace Go.Proofs.Ytlgcecndfejngaa
open Go.RowKit

/-- One Ask, plainly. -/
structure AskV where
  kind : Int
  f : Int
  t : Int
  n : Int
  s : List UInt8

/-- A slice of len Asks. -/
def IsAsks (w : World) (a : Option Addr) (len : Nat) : Prop := ∀ i, i < len → ∃ b off, ∃ x : AskV, a = some ⟨b, off, none⟩ ∧ b < w.heap.size ∧ w.cell? ⟨b, off + i * 5, none⟩ = some (.int .i64 x.kind) ∧ w.cell? ⟨b, off + i * 5 + 1, none⟩ = some (.int .i64 x.f) ∧ w.cell? ⟨b, off + i * 5 + 2, none⟩ = some (.int .i64 x.t) ∧ w.cell? ⟨b, off + i * 5 + 3, none⟩ = some (.int .i64 x.n) ∧ w.cell? ⟨b, off + i * 5 + 4, none⟩ = some (.string ⟨x.s.toArray⟩) ∧ I64 x.n ∧ x.s.length ≤ 140737488355328

/-- The array of truths T in block b. -/
def truths (T : Nat → Bool) : List Value := (List.range 200).map fun j => .bool (T j)
def Ar (w : World) (b : Nat) (T : Nat → Bool) : Prop := w.heap[b]? = some (.cells (truths T).toArray 51 (0, 0))
theorem Ar.lt {w : World} {b : Nat} {T : Nat → Bool} (h : Ar w b T) : b < w.heap.size := lt_of_block h
theorem Ar.cell {w : World} {b : Nat} {T : Nat → Bool} (h : Ar w b T) (i : Nat) (hi : i < 200) : w.cell? ⟨b, i, none⟩ = some (.bool (T i)) := by
  rw [cell_of_row w b i _ _ _ h]
  simp [truths, hi]
theorem Ar.free {w : World} {b : Nat} {T : Nat → Bool} (h : Ar w b T) (i : Nat) : w.frozen? ⟨b, i, none⟩ = false := by
  unfold Ar at h
  simp [World.frozen?, h]
theorem Ar.kept {p : Nat → Prop} {w w' : World} {b : Nat} {T : Nat → Bool} (h : Ar w b T) (hk : Kept p w w') (hb : p b) : Ar w' b T := (hk.block b h.lt hb).trans h
/-- One truth is written. -/
def upd (T : Nat → Bool) (j : Nat) : Nat → Bool := fun x => if x = j then true else T x
theorem truths_set (T : Nat → Bool) (j : Nat) : (truths T).set j (.bool true) = truths (upd T j) := by
  apply List.ext_getElem?
  intro x
  by_cases hx : x < 200
  · by_cases hj : j = x
    · subst hj
      simp [truths, upd, hx]
    · simp [truths, upd, hx, hj, Ne.symm hj]
  · rw [List.getElem?_eq_none (by simp [truths]; omega), List.getElem?_eq_none (by simp [truths]; omega)]
theorem Ar.set {w : World} {b : Nat} {T : Nat → Bool} (h : Ar w b T) (j : Nat) : Ar (w.setCell ⟨b, j, none⟩ (.bool true)) b (upd T j) := by
  have := heap_setCell_same w b j _ 51 (.bool true) h
  unfold Ar
  rw [this, ← truths_set]
  simp

theorem Try.infoTruths : (Try.prog.info? 51).map (fun i => (i.zero, i.size)) = some (some (.agg (List.replicate 200 (Value.bool false)).toArray), 200) := by kernel_rfl
/-- A variable of that type is made. -/
theorem w_alloc {ops : Array Oper} {rest : List Oper} {a : Act} {w : World} {Q : Exit → Act → World → Prop} {d : Option Nat} {ty : TypeId} {p : String} {af : Array Edge}
    (h : ∀ w', Ar w' w.heap.size (fun _ => false) → Kept (fun _ => True) w w' → wpList Try.prog ops Q rest (a.put d (.pointer (some ⟨w.heap.size, 0, none⟩))) w') :
    wpList Try.prog ops Q (⟨d, .alloc 51, ty, p, af, none⟩ :: rest) a w := by
  refine wpList_plain rfl fun K hK => ?_
  have hz := (zero_of_info Try.infoTruths).1
  have e : truths (fun _ => false) = List.replicate 200 (Value.bool false) := by
    unfold truths
    rw [List.map_const', List.length_range]
  unfold Oper.wp execOp
  simp only [Instr.alloc, Sem.run_bind, Sem.run_pure, Result.andThen_ok, hz, newVar]
  simp only [newRow, Value.cells]
  refine hK _ _ (h _ ?_ ((Kept.refl _ w).alloc (.cells (List.replicate 200 (Value.bool false)).toArray 51)))
  unfold Ar
  rw [e]
  exact heap_alloc_new w _

end Go.Proofs.Ytlgcecndfejngaa
