/-
  The document's Map in memory: an epoch and 256 owners.
-/
import Derived.Test.YtebpkhemkdgbjaaM1
import Derived.Test.YtebpkhemkdgbjaaPArr
import Derived.Laws.Rows
import Derived.Laws.Tables
import Derived.Laws.World
import Derived.Deep.WholeRow
namespace Go.Proofs.Ytebpkhemkdgbjaa
open Go.RowKit

/-- The cells of the document's Map. -/
def mcell (ep : Int) (f : Nat → Int) (i : Nat) : Value := if i = 0 then .int .i64 ep else .int .i64 (f (i - 1))
def mcs (ep : Int) (f : Nat → Int) : List Value := (List.range 257).map (mcell ep f)
theorem mcs_length (ep : Int) (f : Nat → Int) : (mcs ep f).length = 257 := by simp [mcs]
theorem mcs_one (ep : Int) (f : Nat → Int) : ∀ u ∈ mcs ep f, u.oneCell' = true := by
  intro u hu
  obtain ⟨i, _, rfl⟩ := List.mem_map.1 hu
  unfold mcell
  split <;> rfl
theorem mcs_congr {ep : Int} {f f' : Nat → Int} (h : ∀ i, i < 256 → f i = f' i) : mcs ep f = mcs ep f' := by
  unfold mcs
  apply List.map_congr_left
  intro i hi
  have := List.mem_range.1 hi
  unfold mcell
  split
  · rfl
  · rw [h _ (by omega)]

/-- The document's Map in block b. -/
def Rm (w : World) (b : Nat) (ep : Int) (f : Nat → Int) : Prop := Af w b 54 257 (mcell ep f)
section
variable {w w' : World} {b : Nat} {ep : Int} {f : Nat → Int}
theorem Rm.lt (h : Rm w b ep f) : b < w.heap.size := Af.lt h
theorem Rm.block (h : Rm w b ep f) : w.heap[b]? = some (.cells (mcs ep f).toArray 54 (0, 0)) := h
theorem Rm.kept {p : Nat → Prop} (h : Rm w b ep f) (k : Kept p w w') (hp : p b) : Rm w' b ep f := Af.kept h k hp
theorem Rm.all (h : Rm w b ep f) (k : Kept (fun _ => True) w w') : Rm w' b ep f := Af.kept h k trivial
theorem Rm.cep (h : Rm w b ep f) : w.cell? ⟨b, 0, none⟩ = some (.int .i64 ep) := Af.cell h (by omega)
theorem Rm.of (h : Rm w b ep f) {i : Nat} (hi : i < 256) : w.cell? ⟨b, 1 + i, none⟩ = some (.int .i64 (f i)) := by
  have := Af.cell h (i := 1 + i) (by omega)
  rw [this]
  unfold mcell
  rw [if_neg (by omega), show 1 + i - 1 = i by omega]
theorem Rm.free (h : Rm w b ep f) (i : Nat) : w.frozen? ⟨b, i, none⟩ = false := Af.free h i
theorem Rm.set (h : Rm w b ep f) {j : Nat} (hj : j < 256) (g : Int) : Rm (w.setCell ⟨b, 1 + j, none⟩ (.int .i64 g)) b ep (fun i => if i = j then g else f i) :=
  (Af.set h (1 + j) _).congr (fun i hi => by
    by_cases e : i = 1 + j
    · subst e
      rw [if_pos rfl]
      unfold mcell
      rw [if_neg (by omega)]
      dsimp only
      rw [if_pos (by omega)]
    · rw [if_neg e]
      unfold mcell
      split
      · rfl
      · dsimp only
        rw [if_neg (by omega)])
theorem Rm.setEp (h : Rm w b ep f) (e' : Int) : Rm (w.setCell ⟨b, 0, none⟩ (.int .i64 e')) b e' f :=
  (Af.set h 0 _).congr (fun i hi => by
    by_cases e : i = 0
    · subst e; rfl
    · rw [if_neg e]
      unfold mcell
      rw [if_neg e, if_neg e])
theorem Rm.congr {f' : Nat → Int} (h : Rm w b ep f) (hf : ∀ i, i < 256 → f i = f' i) : Rm w b ep f' :=
  Af.congr h (fun i hi => by
    unfold mcell
    split
    · rfl
    · rw [hf _ (by omega)])
end

theorem Try.sizeRm : (Try.prog.info? 54).map (·.size) = some 257 := by kernel_rfl
theorem Try.zeroRm : (Try.prog.info? 54).map (fun i => (i.zero, i.size)) = some (some (.agg (mcs 0 (fun _ => 0)).toArray), 257) := by kernel_rfl

/-- A variable of the document's Map is made. -/
theorem w_alloc_m {ops : Array Oper} {rest : List Oper} {a : Act} {w : World} {Q : Exit → Act → World → Prop} {d : Option Nat} {ty : TypeId} {p : String} {af : Array Edge}
    (h : ∀ w', Rm w' w.heap.size 0 (fun _ => 0) → Kept (fun _ => True) w w' → Hid (w'.heap.size = w.heap.size + 1) → wpList Try.prog ops Q rest (a.put d (.pointer (some ⟨w.heap.size, 0, none⟩))) w') :
    wpList Try.prog ops Q (⟨d, .alloc 54, ty, p, af, none⟩ :: rest) a w := by
  refine wpList_plain rfl fun K hK => ?_
  have hz := (zero_of_info Try.zeroRm).1
  unfold Oper.wp execOp
  simp only [Instr.alloc, Sem.run_bind, Sem.run_pure, Result.andThen_ok, hz, newVar]
  simp [newRow, Value.cells, Oper.upon, Result.andThen]
  refine hK _ _ (h _ (heap_alloc_new w (.cells (mcs 0 (fun _ => 0)).toArray 54)) ((Kept.refl _ _).alloc _) (show _ = _ by simp))
/-- A parameter goes into a variable. -/
theorem w_box_m {ops : Array Oper} {rest : List Oper} {a : Act} {w : World} {Q : Exit → Act → World → Prop} {d : Option Nat} {ty : TypeId} {p : String} {af : Array Edge} {x : Operand} {ep : Int} {f : Nat → Int} (hx : a.eval x = .agg (mcs ep f).toArray)
    (h : ∀ w', Rm w' w.heap.size ep f → Kept (fun _ => True) w w' → Hid (w'.heap.size = w.heap.size + 1) → wpList Try.prog ops Q rest (a.put d (.pointer (some ⟨w.heap.size, 0, none⟩))) w') :
    wpList Try.prog ops Q (⟨d, .box 54 x, ty, p, af, none⟩ :: rest) a w := by
  refine wpList_plain rfl fun K hK => ?_
  unfold Oper.wp execOp
  simp only [Instr.box, Sem.run_bind, Sem.run_pure, newVar, hx]
  simp [newRow, Value.cells, Oper.upon, Result.andThen]
  refine hK _ _ (h _ (heap_alloc_new w (.cells (mcs ep f).toArray 54)) ((Kept.refl _ _).alloc _) (show _ = _ by simp))
/-- It is read whole. -/
theorem w_load_m {ops : Array Oper} {rest : List Oper} {a : Act} {w : World} {Q : Exit → Act → World → Prop} {d : Option Nat} {ty : TypeId} {p : String} {af : Array Edge} {x : Operand} {b : Nat} {ep : Int} {f : Nat → Int} (hx : a.eval x = .pointer (some ⟨b, 0, none⟩)) (ha : Rm w b ep f)
    (h : wpList Try.prog ops Q rest (a.put d (.agg (mcs ep f).toArray)) w) :
    wpList Try.prog ops Q (⟨d, .load 54 x, ty, p, af, none⟩ :: rest) a w :=
  wpList_load_row rfl 54 x rfl b hx 54 (mcs ep f).toArray (0, 0) _ ha.block Try.underlying54 rfl (by rw [Try.sizeRm]; simp [mcs_length]) h
/-- It is written whole. -/
theorem w_store_m {ops : Array Oper} {rest : List Oper} {a : Act} {w : World} {Q : Exit → Act → World → Prop} {ty : TypeId} {p : String} {af : Array Edge} {x y : Operand} {b : Nat} {ep ep' : Int} {f f' : Nat → Int} (hx : a.eval x = .pointer (some ⟨b, 0, none⟩)) (hy : a.eval y = .agg (mcs ep' f').toArray) (ha : Rm w b ep f)
    (h : ∀ w', Rm w' b ep' f' → Kept (· ≠ b) w w' → Hid (w'.heap.size = w.heap.size) → wpList Try.prog ops Q rest a w') :
    wpList Try.prog ops Q (⟨none, .store 54 x y, ty, p, af, none⟩ :: rest) a w := by
  refine wpList_store_row rfl 54 x y rfl b (mcs ep' f').toArray hx hy 54 (mcs ep f).toArray ha.block (by rw [Try.sizeRm]; simp [mcs_length]) (by simp [mcs_length]) (by simpa using mcs_one ep' f') ?_
  refine h _ (setRow_heap w b _ (mcs ep' f').toArray 54 _ ha.block) ((Kept.refl _ _).setRow (by simp) _) (show _ = _ by simp [World.setRow])
/-- One with an epoch alone. -/
theorem run_build_m (ep : Int) (W : World) : (Instr.build 54 #[(0, .int .i64 ep)]).run Try.prog W = .ok (.agg (mcs ep (fun _ => 0)).toArray) W := by kernel_rfl
theorem run_build_m0 (W : World) : (Instr.build 54 #[]).run Try.prog W = .ok (.agg (mcs 0 (fun _ => 0)).toArray) W := by kernel_rfl
theorem w_build_m {ops : Array Oper} {rest : List Oper} {a : Act} {w : World} {Q : Exit → Act → World → Prop} {d : Option Nat} {ty : TypeId} {p : String} {af : Array Edge} {x : Operand} {ep : Int} (hx : a.eval x = .int .i64 ep)
    (h : wpList Try.prog ops Q rest (a.put d (.agg (mcs ep (fun _ => 0)).toArray)) w) : wpList Try.prog ops Q (⟨d, .build 54 #[(0, x)], ty, p, af, none⟩ :: rest) a w := by
  refine wpList_plain rfl fun K hK => ?_
  unfold Oper.wp execOp
  have e := run_build_m ep w
  simp only [Sem.run_bind, Sem.run_pure, List.map_toArray, List.map_cons, List.map_nil, hx]
  simp [e, Oper.upon, Result.andThen]
  exact hK _ _ h
theorem w_build_m0 {ops : Array Oper} {rest : List Oper} {a : Act} {w : World} {Q : Exit → Act → World → Prop} {d : Option Nat} {ty : TypeId} {p : String} {af : Array Edge}
    (h : wpList Try.prog ops Q rest (a.put d (.agg (mcs 0 (fun _ => 0)).toArray)) w) : wpList Try.prog ops Q (⟨d, .build 54 #[], ty, p, af, none⟩ :: rest) a w := by
  refine wpList_plain rfl fun K hK => ?_
  unfold Oper.wp execOp
  have e := run_build_m0 w
  simp only [Sem.run_bind, Sem.run_pure, List.map_toArray, List.map_nil]
  simp [e, Oper.upon, Result.andThen]
  exact hK _ _ h
theorem load_rm {w : World} {b : Nat} {ep : Int} {f : Nat → Int} (h : Rm w b ep f) : (loadVar 54 ⟨b, 0, none⟩).run Try.prog w = .ok (.agg (mcs ep f).toArray) w :=
  run_loadVar_row w b 54 54 (mcs ep f).toArray (0, 0) _ h.block Try.underlying54 rfl (by rw [Try.sizeRm]; simp [mcs_length])
theorem results_rm {fn : Func} {p : Nat} (h : fn.results = #[.cell p 54]) (tmps : Array Value) (w : World) {b : Nat} {ep : Int} {f : Nat → Int} (hp : tmps.getD p undef = .pointer (some ⟨b, 0, none⟩)) (ha : Rm w b ep f) : (results fn tmps).run Try.prog w = .ok (.agg (mcs ep f).toArray) w :=
  results_cell_row h tmps w b 54 (mcs ep f).toArray (0, 0) _ hp ha.block Try.underlying54 rfl (by rw [Try.sizeRm]; simp [mcs_length])

end Go.Proofs.Ytebpkhemkdgbjaa
