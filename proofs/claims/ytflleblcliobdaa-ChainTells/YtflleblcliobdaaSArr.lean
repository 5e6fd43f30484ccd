/-
  Arrays in memory: a block of as many cells, made, read whole, written whole, read and written by place.
-/
import Derived.Test.YtflleblcliobdaaSRot
import Derived.Laws.Rows
import Derived.Laws.Tables
import Derived.Laws.World
import Derived.Deep.WholeRow
namespace Go.Proofs.Ytflleblcliobdaa
open Go.RowKit

/-- Words as cells of memory. -/
def wcells (ws : List Nat) : List Value := ws.map fun (n : Nat) => Value.int .u32 n
theorem wcells_length (ws : List Nat) : (wcells ws).length = ws.length := by simp [wcells]
theorem wcells_get (ws : List Nat) (i : Nat) (h : i < ws.length) : (wcells ws)[i]? = some (.int .u32 (ws[i] : Nat)) := by simp [wcells, h]
theorem wcells_set (ws : List Nat) (i n : Nat) : (wcells ws).set i (.int .u32 n) = wcells (ws.set i n) := by simp [wcells, List.map_set]
theorem wcells_one (ws : List Nat) : ∀ u ∈ wcells ws, u.oneCell' = true := by
  intro u hu
  obtain ⟨_, _, rfl⟩ := List.mem_map.1 hu
  rfl
theorem cells_set (bs : List UInt8) (i : Nat) (b : UInt8) : (cells bs).set i (.int .u8 b.toNat) = cells (bs.set i b) := by simp [cells, List.map_set]

/-- The array xs of type t in block b. -/
def Ar (w : World) (b t : Nat) (xs : List Value) : Prop := w.heap[b]? = some (.cells xs.toArray t (0, 0))
theorem Ar.lt {w : World} {b t : Nat} {xs : List Value} (h : Ar w b t xs) : b < w.heap.size := lt_of_block h
theorem Ar.cell {w : World} {b t : Nat} {xs : List Value} (h : Ar w b t xs) (i : Nat) : w.cell? ⟨b, i, none⟩ = xs[i]? := by
  rw [cell_of_row w b i _ _ _ h]
  simp
theorem Ar.word {w : World} {b t : Nat} {ws : List Nat} (h : Ar w b t (wcells ws)) (i : Nat) (hi : i < ws.length) : w.cell? ⟨b, i, none⟩ = some (.int .u32 (ws[i] : Nat)) := (h.cell i).trans (wcells_get ws i hi)
theorem Ar.free {w : World} {b t : Nat} {xs : List Value} (h : Ar w b t xs) (i : Nat) : w.frozen? ⟨b, i, none⟩ = false := by
  unfold Ar at h
  simp [World.frozen?, h]
theorem Ar.kept {p : Nat → Prop} {w w' : World} {b t : Nat} {xs : List Value} (h : Ar w b t xs) (hk : Kept p w w') (hb : p b) : Ar w' b t xs := (hk.block b h.lt hb).trans h
theorem Ar.set {w : World} {b t : Nat} {xs : List Value} (h : Ar w b t xs) (i : Nat) (u : Value) : Ar (w.setCell ⟨b, i, none⟩ u) b t (xs.set i u) := by
  have := heap_setCell_same w b i _ t u h
  unfold Ar
  rw [this]
  simp
theorem Ar.drew {w : World} {b t : Nat} {xs : List Value} (h : Ar w b t xs) : Ar w.drew b t xs := h
theorem Ar.drewN {w : World} {b t : Nat} {xs : List Value} (h : Ar w b t xs) (n : Nat) : Ar (w.drewN n) b t xs := h
/-- A slice over an array of bytes from o on. -/
theorem Ar.has {w : World} {b t : Nat} {bs : List UInt8} (h : Ar w b t (cells bs)) (o n : Nat) (hn : o + n ≤ bs.length) : Has w (some ⟨b, o, none⟩) ((bs.drop o).take n) := by
  intro _
  refine ⟨_, rfl, fun j hj => ?_⟩
  have hj' : j < n := by simp at hj; omega
  rw [WideShapes.add_plain, h.cell (o + j), cells_getElem bs (o + j) (by omega)]
  simp

/-- What the walk asks of an array's type. -/
structure ArrT (t n : Nat) (z : Value) : Prop where
  under : ∃ e, Try.prog.underlying t = some (.array n e)
  info : (Try.prog.info? t).map (fun i => (i.zero, i.size)) = some (some (.agg (List.replicate n z).toArray), n)
theorem ArrT.size {t n : Nat} {z : Value} (h : ArrT t n z) : (Try.prog.info? t).map (·.size) = some n := (zero_of_info h.info).2
theorem arr64 : ArrT 93 64 (.int .u32 0) := ⟨⟨_, Try.underlying93⟩, by kernel_rfl⟩
theorem arr8 : ArrT 91 8 (.int .u32 0) := ⟨⟨_, Try.underlying91⟩, by kernel_rfl⟩
theorem arr32 : ArrT 25 32 (.int .u8 0) := ⟨⟨_, Try.underlying25⟩, by kernel_rfl⟩
theorem arr128 : ArrT 98 128 (.int .u8 0) := ⟨⟨_, Try.underlying98⟩, by kernel_rfl⟩

theorem alloc_kept (w : World) (o : Obj) : Kept (fun _ => True) w (w.alloc o) := (Kept.refl _ _).alloc o

/-- A variable of an array's type is made. -/
theorem w_alloc {ops : Array Oper} {rest : List Oper} {a : Act} {w : World} {Q : Exit → Act → World → Prop} {d : Option Nat} {ty : TypeId} {p : String} {af : Array Edge} {t n : Nat} {z : Value} (hT : ArrT t n z)
    (h : ∀ w', Ar w' w.heap.size t (List.replicate n z) → Kept (fun _ => True) w w' → Hid (w'.heap.size = w.heap.size + 1) → wpList Try.prog ops Q rest (a.put d (.pointer (some ⟨w.heap.size, 0, none⟩))) w') :
    wpList Try.prog ops Q (⟨d, .alloc t, ty, p, af, none⟩ :: rest) a w := by
  refine wpList_plain rfl fun K hK => ?_
  have hz := (zero_of_info hT.info).1
  unfold Oper.wp execOp
  simp only [Instr.alloc, Sem.run_bind, Sem.run_pure, Result.andThen_ok, hz, newVar]
  simp [newRow, Value.cells, Oper.upon, Result.andThen]
  refine hK _ _ (h _ (by simpa [Ar] using heap_alloc_last w (.cells (List.replicate n z).toArray t)) (alloc_kept w _) (show _ = _ by simp))

/-- A parameter of an array's type goes into a variable. -/
theorem w_box {ops : Array Oper} {rest : List Oper} {a : Act} {w : World} {Q : Exit → Act → World → Prop} {d : Option Nat} {ty : TypeId} {p : String} {af : Array Edge} {t : Nat} {x : Operand} (xs : List Value) (hx : a.eval x = .agg xs.toArray)
    (h : ∀ w', Ar w' w.heap.size t xs → Kept (fun _ => True) w w' → Hid (w'.heap.size = w.heap.size + 1) → wpList Try.prog ops Q rest (a.put d (.pointer (some ⟨w.heap.size, 0, none⟩))) w') :
    wpList Try.prog ops Q (⟨d, .box t x, ty, p, af, none⟩ :: rest) a w := by
  refine wpList_plain rfl fun K hK => ?_
  unfold Oper.wp execOp
  simp only [Instr.box, Sem.run_bind, Sem.run_pure, newVar, hx]
  simp [newRow, Value.cells, Oper.upon, Result.andThen]
  refine hK _ _ (h _ (by simpa [Ar] using heap_alloc_last w (.cells xs.toArray t)) (alloc_kept w _) (show _ = _ by simp))

/-- An array is read whole. -/
theorem w_load {ops : Array Oper} {rest : List Oper} {a : Act} {w : World} {Q : Exit → Act → World → Prop} {d : Option Nat} {ty : TypeId} {p : String} {af : Array Edge} {t n : Nat} {z : Value} {x : Operand} (hT : ArrT t n z) {b : Nat} {xs : List Value} (hx : a.eval x = .pointer (some ⟨b, 0, none⟩)) (ha : Ar w b t xs) (hl : xs.length = n)
    (h : wpList Try.prog ops Q rest (a.put d (.agg xs.toArray)) w) :
    wpList Try.prog ops Q (⟨d, .load t x, ty, p, af, none⟩ :: rest) a w := by
  obtain ⟨e, hu⟩ := hT.under
  exact wpList_load_row rfl t x rfl b hx t xs.toArray (0, 0) _ ha hu rfl (by rw [hT.size]; simp [hl]) h

/-- An array is written whole. -/
theorem w_store {ops : Array Oper} {rest : List Oper} {a : Act} {w : World} {Q : Exit → Act → World → Prop} {ty : TypeId} {p : String} {af : Array Edge} {t n : Nat} {z : Value} {x y : Operand} (hT : ArrT t n z) {b : Nat} {old xs : List Value} (hx : a.eval x = .pointer (some ⟨b, 0, none⟩)) (hy : a.eval y = .agg xs.toArray) (ha : Ar w b t old) (ho : old.length = n) (hl : xs.length = n) (h1 : ∀ u ∈ xs, u.oneCell' = true)
    (h : ∀ w', Ar w' b t xs → Kept (· ≠ b) w w' → Hid (w'.heap.size = w.heap.size) → wpList Try.prog ops Q rest a w') :
    wpList Try.prog ops Q (⟨none, .store t x y, ty, p, af, none⟩ :: rest) a w := by
  refine wpList_store_row rfl t x y rfl b xs.toArray hx hy t old.toArray ha (by rw [hT.size]; simp [hl]) (by simp [ho, hl]) (by simpa using h1) ?_
  refine h _ (setRow_heap w b _ xs.toArray t _ ha) ((Kept.refl _ _).setRow (by simp) _) (show _ = _ by simp [World.setRow])

/-- What a function hands back through a variable of an array's type. -/
theorem results_ar {fn : Func} {p t n : Nat} {z : Value} (hT : ArrT t n z) (h : fn.results = #[.cell p t]) (tmps : Array Value) (w : World) {b : Nat} {xs : List Value} (hp : tmps.getD p undef = .pointer (some ⟨b, 0, none⟩)) (ha : Ar w b t xs) (hl : xs.length = n) : (results fn tmps).run Try.prog w = .ok (.agg xs.toArray) w := by
  obtain ⟨e, hu⟩ := hT.under
  exact results_cell_row h tmps w b t xs.toArray (0, 0) _ hp ha hu rfl (by rw [hT.size]; simp [hl])

theorem results_ar2 {fn : Func} {p t n q : Nat} {z : Value} (hT : ArrT t n z) (h : fn.results = #[.cell p t, .tmp q]) (tmps : Array Value) (w : World) {b : Nat} {xs : List Value} (hp : tmps.getD p undef = .pointer (some ⟨b, 0, none⟩)) (ha : Ar w b t xs) (hl : xs.length = n) : (results fn tmps).run Try.prog w = .ok (.tuple #[.agg xs.toArray, tmps.getD q undef]) w := by
  obtain ⟨e, hu⟩ := hT.under
  have hp' : tmps[p]?.getD undef = .pointer (some ⟨b, 0, none⟩) := by simpa using hp
  simp [results, h, hp', asAddr, run_loadVar_row w b t t xs.toArray (0, 0) _ ha hu rfl (by rw [hT.size]; simp [hl])]

theorem put_none (a : Act) (v : Value) : a.put none v = a := rfl

end Go.Proofs.Ytflleblcliobdaa
