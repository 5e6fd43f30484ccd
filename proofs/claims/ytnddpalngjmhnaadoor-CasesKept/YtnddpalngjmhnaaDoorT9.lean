/-
  Write.
-/
import Derived.Test.YtnddpalngjmhnaaDoorT8
import Derived.Laws.Concat
namespace Go.Proofs.YtnddpalngjmhnaaDoor
open Go.RowKit

theorem text_plus (a b : List UInt8) (h : a.length + b.length ≤ 140737488355328) (W : World) : (Op.stringOp .add ⟨a.toArray⟩ ⟨b.toArray⟩).run Tryd.prog W = .ok (.string ⟨(a ++ b).toArray⟩) W := by
  rw [run_string_add_sum (P := Tryd.prog) W _ _ (by simp only [ByteArray.size, List.size_toArray]; omega), ByteArray.mk_append_mk]
theorem text_joins (a b : List UInt8) (h : a.length + b.length ≤ 140737488355328) : ∃ y : List UInt8, Hid (y = a ++ b) ∧ ∀ W, (Op.stringOp .add ⟨a.toArray⟩ ⟨b.toArray⟩).run Tryd.prog W = .ok (.string ⟨y.toArray⟩) W := ⟨_, rfl, text_plus a b h⟩

/-- While a text is written: what was there, the box, the builder. -/
structure Wt (w wr : World) (o : Obj) (l : List UInt8) : Prop where
  kept : Kept (fun _ => True) w wr
  box : wr.heap[w.heap.size]? = some o
  bu : Bu wr (w.heap.size + 1) (w.heap.size + 1) l
theorem Bu.lt {w : World} {B b : Nat} {l : List UInt8} (h : Bu w B b l) : b < w.heap.size := by
  rcases h with h | h
  · exact h.lt
  · exact h.lt
theorem Wt.all {w wr w' : World} {o : Obj} {l : List UInt8} (h : Wt w wr o l) (k : Kept (fun _ => True) wr w') : Wt w w' o l :=
  ⟨h.kept.trans k, (k.block _ (lt_of_block h.box) trivial).trans h.box, h.bu.all k⟩
theorem Wt.write {w wr w' : World} {o : Obj} {l l' : List UInt8} (h : Wt w wr o l) (k : Below (w.heap.size + 1) wr w') (hb : Bu w' (w.heap.size + 1) (w.heap.size + 1) l') : Wt w w' o l' :=
  ⟨h.kept.then ⟨k.os, k.tape, k.output, k.size, fun i _ hp => k.block i hp⟩ (fun i hi _ => by show i < _; omega), (k.block _ (by omega)).trans h.box, hb⟩
theorem other_attr {w w' : World} {b G : Nat} {cs : Array Value} (k : Lib.OthersKept 5 (some b) w w') (hG : w.heap[G]? = some (.cells cs 59 (0, 0))) (hb : G ≠ b) : w'.heap[G]? = some (.cells cs 59 (0, 0)) :=
  k G _ hG (fun e => hb (Option.some.inj e)) (fun c fz e => by simp at e)
/-- Numbers fit. -/
def F64 (n : Int) : Prop := -9223372036854775808 ≤ n ∧ n ≤ 9223372036854775807
def Tfit (t : Ty) : Prop := ∀ a ∈ t.attrs, F64 a.start ∧ F64 a.lo ∧ F64 a.hi
def nmsOf (x : At) : List Int := [x.start, x.lo, x.hi]
def nmT (n : Int) : List UInt8 := [32] ++ Lib.itoa n
theorem semi_attr (x : At) : [59, 32, 97, 116, 116, 114, 32] ++ x.name ++ (nmsOf x).flatMap nmT = semi (pA x) := by
  simp [semi, pA, nmsOf, nmT]
theorem semi_stage (x : Ru) : [59, 32, 115, 116, 97, 103, 101, 32] ++ x.name ++ [32] ++ x.guard = semi (pS x) := by simp [semi, pS]
theorem semi_mark (x : Ru) : [59, 32, 109, 97, 114, 107, 32] ++ x.name ++ [32] ++ x.guard = semi (pM x) := by simp [semi, pM]
theorem flat_take_succ {α β : Type} (f : α → List β) (l : List α) (i : Nat) (h : i < l.length) : (l.take (i + 1)).flatMap f = (l.take i).flatMap f ++ f l[i] := by
  rw [List.take_succ_eq_append_getElem h, List.flatMap_append]
  simp
theorem itoa_len (n : Int) : (Lib.itoa n).length ≤ (Lib.itoa n).length := Nat.le_refl _

end Go.Proofs.YtnddpalngjmhnaaDoor
