/-
  Attributes and rules in memory: rows that are looked at, rows of one's own; readAttr, readRule, keep, ranged.
-/
import Derived.Test.YtnddpalngjmhnaaDoorT1
import Derived.Laws.ResultCell
namespace Go.Proofs.YtnddpalngjmhnaaDoor
open Go.RowKit

/-- Their cells. -/
def alay (a : At) : List Value := [.string ⟨a.name.toArray⟩, .int .i64 a.start, .int .i64 a.lo, .int .i64 a.hi]
def rlay (r : Ru) : List Value := [.string ⟨r.name.toArray⟩, .string ⟨r.guard.toArray⟩]
def arow (xs : List At) : List Value := xs.flatMap alay
def rrow (xs : List Ru) : List Value := xs.flatMap rlay
theorem flat_length {α : Type} {lay : α → List Value} {sz : Nat} (hl : ∀ x, (lay x).length = sz) (xs : List α) : (xs.flatMap lay).length = xs.length * sz := by
  induction xs with
  | nil => simp
  | cons x xs ih => rw [List.flatMap_cons, List.length_append, ih, hl, List.length_cons, Nat.succ_mul]; omega
theorem flat_get {α : Type} {lay : α → List Value} {sz : Nat} (hl : ∀ x, (lay x).length = sz) : ∀ (xs : List α) (k : Nat) (h : k < xs.length) (j : Nat), j < sz → (xs.flatMap lay)[k * sz + j]? = (lay xs[k])[j]?
  | x :: xs, 0, _, j, hj => by
    rw [List.flatMap_cons, Nat.zero_mul, Nat.zero_add, List.getElem?_append_left (by rw [hl]; exact hj)]
    rfl
  | x :: xs, k + 1, h, j, hj => by
    have := flat_get hl xs k (by simpa using h) j hj
    rw [List.flatMap_cons, Nat.succ_mul, show k * sz + sz + j = sz + (k * sz + j) by omega, List.getElem?_append_right (by rw [hl]; omega), hl, Nat.add_sub_cancel_left, this]
    rfl
theorem flat_one {α : Type} {lay : α → List Value} (h1 : ∀ x, ∀ u ∈ lay x, u.oneCell' = true) (xs : List α) : ∀ u ∈ xs.flatMap lay, u.oneCell' = true := by
  intro u hu
  obtain ⟨x, _, hm⟩ := List.mem_flatMap.1 hu
  exact h1 x u hm
theorem alay_len (x : At) : (alay x).length = 4 := rfl
theorem rlay_len (x : Ru) : (rlay x).length = 2 := rfl
theorem alay_one (x : At) : ∀ u ∈ alay x, u.oneCell' = true := by
  intro u hu
  simp only [alay, List.mem_cons, List.not_mem_nil, or_false] at hu
  rcases hu with rfl | rfl | rfl | rfl <;> rfl
theorem rlay_one (x : Ru) : ∀ u ∈ rlay x, u.oneCell' = true := by
  intro u hu
  simp only [rlay, List.mem_cons, List.not_mem_nil, or_false] at hu
  rcases hu with rfl | rfl <;> rfl

/-- Attributes that are looked at. -/
def Av (w : World) (v : Value) (xs : List At) : Prop :=
  ∃ ao cap, v = .slice ao xs.length cap ∧ xs.length ≤ 281474976710656 ∧ (ao = none → cap = 0) ∧ (0 < xs.length → ∃ b off, ao = some ⟨b, off, none⟩ ∧ b < w.heap.size ∧ ∀ i (h : i < xs.length),
    w.cell? ⟨b, off + i * 4, none⟩ = some (.string ⟨(xs[i]).name.toArray⟩) ∧ w.cell? ⟨b, off + i * 4 + 1, none⟩ = some (.int .i64 (xs[i]).start) ∧ w.cell? ⟨b, off + i * 4 + 2, none⟩ = some (.int .i64 (xs[i]).lo) ∧ w.cell? ⟨b, off + i * 4 + 3, none⟩ = some (.int .i64 (xs[i]).hi))
/-- Stages or marks that are looked at. -/
def Rv (w : World) (v : Value) (xs : List Ru) : Prop :=
  ∃ ao cap, v = .slice ao xs.length cap ∧ xs.length ≤ 281474976710656 ∧ (ao = none → cap = 0) ∧ (0 < xs.length → ∃ b off, ao = some ⟨b, off, none⟩ ∧ b < w.heap.size ∧ ∀ i (h : i < xs.length),
    w.cell? ⟨b, off + i * 2, none⟩ = some (.string ⟨(xs[i]).name.toArray⟩) ∧ w.cell? ⟨b, off + i * 2 + 1, none⟩ = some (.string ⟨(xs[i]).guard.toArray⟩))
theorem Av.all {w w' : World} {v : Value} {xs : List At} (h : Av w v xs) (k : Kept (fun _ => True) w w') : Av w' v xs := by
  obtain ⟨ao, cap, e, hl, hn, h⟩ := h
  refine ⟨ao, cap, e, hl, hn, fun h0 => ?_⟩
  obtain ⟨b, off, e, hb, hc⟩ := h h0
  refine ⟨b, off, e, Nat.lt_of_lt_of_le hb k.size, fun i hi => ?_⟩
  obtain ⟨h1, h2, h3, h4⟩ := hc i hi
  exact ⟨(kept_cell k hb trivial).trans h1, (kept_cell k hb trivial).trans h2, (kept_cell k hb trivial).trans h3, (kept_cell k hb trivial).trans h4⟩
theorem Rv.all {w w' : World} {v : Value} {xs : List Ru} (h : Rv w v xs) (k : Kept (fun _ => True) w w') : Rv w' v xs := by
  obtain ⟨ao, cap, e, hl, hn, h⟩ := h
  refine ⟨ao, cap, e, hl, hn, fun h0 => ?_⟩
  obtain ⟨b, off, e, hb, hc⟩ := h h0
  refine ⟨b, off, e, Nat.lt_of_lt_of_le hb k.size, fun i hi => ?_⟩
  obtain ⟨h1, h2⟩ := hc i hi
  exact ⟨(kept_cell k hb trivial).trans h1, (kept_cell k hb trivial).trans h2⟩
theorem Av.kept {p : Nat → Prop} {w w' : World} {v : Value} {xs : List At} (h : Av w v xs) (k : Kept p w w') (hp : ∀ i, v.ownBlock = some i → p i) : Av w' v xs := by
  obtain ⟨ao, cap, rfl, hl, hn, h⟩ := h
  refine ⟨ao, cap, rfl, hl, hn, fun h0 => ?_⟩
  obtain ⟨b, off, rfl, hb, hc⟩ := h h0
  refine ⟨b, off, rfl, Nat.lt_of_lt_of_le hb k.size, fun i hi => ?_⟩
  have hpb := hp b rfl
  obtain ⟨h1, h2, h3, h4⟩ := hc i hi
  exact ⟨(kept_cell k hb hpb).trans h1, (kept_cell k hb hpb).trans h2, (kept_cell k hb hpb).trans h3, (kept_cell k hb hpb).trans h4⟩
theorem Rv.kept {p : Nat → Prop} {w w' : World} {v : Value} {xs : List Ru} (h : Rv w v xs) (k : Kept p w w') (hp : ∀ i, v.ownBlock = some i → p i) : Rv w' v xs := by
  obtain ⟨ao, cap, rfl, hl, hn, h⟩ := h
  refine ⟨ao, cap, rfl, hl, hn, fun h0 => ?_⟩
  obtain ⟨b, off, rfl, hb, hc⟩ := h h0
  refine ⟨b, off, rfl, Nat.lt_of_lt_of_le hb k.size, fun i hi => ?_⟩
  have hpb := hp b rfl
  obtain ⟨h1, h2⟩ := hc i hi
  exact ⟨(kept_cell k hb hpb).trans h1, (kept_cell k hb hpb).trans h2⟩
theorem Av.nil (w : World) : Av w (.slice none 0 0) [] := ⟨none, 0, rfl, by simp, fun _ => rfl, fun h => by simp at h⟩
theorem Rv.nil (w : World) : Rv w (.slice none 0 0) [] := ⟨none, 0, rfl, by simp, fun _ => rfl, fun h => by simp at h⟩

/-- Rows of one's own, behind 'base'. -/
def Ao (w : World) (base : Nat) (v : Value) (xs : List At) : Prop := w.ownsRow base 59 4 v xs.length (arow xs)
def Ro (w : World) (base : Nat) (v : Value) (xs : List Ru) : Prop := w.ownsRow base 55 2 v xs.length (rrow xs)
theorem Ao.nil (w : World) (base : Nat) : Ao w base (.slice none 0 0) [] := World.ownsRow_nil _ _ _ _
theorem Ro.nil (w : World) (base : Nat) : Ro w base (.slice none 0 0) [] := World.ownsRow_nil _ _ _ _
theorem own_keep {p : Nat → Prop} {w w' : World} {b e sz n : Nat} {v : Value} {xs : List Value} (h : w.ownsRow b e sz v n xs) (hk : Kept p w w') (hp : ∀ k, v.ownBlock = some k → p k) : w'.ownsRow b e sz v n xs := by
  refine ⟨h.1, ?_⟩
  rcases h.2 with h0 | ⟨g, cap, cur, rfl, hb, hh, rest⟩
  · exact .inl h0
  · exact .inr ⟨g, cap, cur, rfl, hb, (hk.block g (lt_of_block hh) (hp g rfl)).trans hh, rest⟩
theorem own_form {w : World} {b e sz n : Nat} {v : Value} {xs : List Value} (h : w.ownsRow b e sz v n xs) : ∃ ao cap, v = .slice ao n cap ∧ n ≤ cap ∧ (ao = none → cap = 0) ∧ (0 < n → ∃ g, ao = some ⟨g, 0, none⟩) := by
  rcases h.2 with ⟨hv, h0⟩ | ⟨g, cap, cur, hv, _, hh, hc, _⟩
  · exact ⟨none, 0, by rw [hv, h0], by omega, fun _ => rfl, fun hp => by omega⟩
  · exact ⟨_, cap, hv, hc, by simp, fun _ => ⟨g, rfl⟩⟩
theorem Ao.view {w : World} {base : Nat} {v : Value} {xs : List At} (h : Ao w base v xs) (hl : xs.length ≤ 281474976710656) : Av w v xs := by
  obtain ⟨ao, cap, rfl, _, hn, hg⟩ := own_form h
  refine ⟨ao, cap, rfl, hl, hn, fun h0 => ?_⟩
  obtain ⟨g, rfl⟩ := hg h0
  have hc : ∀ i (_ : i < xs.length) (j : Nat), j < 4 → w.cell? ⟨g, i * 4 + j, none⟩ = (alay xs[i])[j]? := fun i hi j hj =>
    (World.ownsRow.cellAt h _ (by omega)).trans (flat_get alay_len xs i hi j hj)
  refine ⟨g, 0, rfl, ?_, fun i hi => ?_⟩
  · have := hc 0 h0 0 (by omega)
    exact World.block_lt_of_cell? w _ this
  · simp only [Nat.zero_add]
    exact ⟨hc i hi 0 (by omega), hc i hi 1 (by omega), hc i hi 2 (by omega), hc i hi 3 (by omega)⟩
theorem Ro.view {w : World} {base : Nat} {v : Value} {xs : List Ru} (h : Ro w base v xs) (hl : xs.length ≤ 281474976710656) : Rv w v xs := by
  obtain ⟨ao, cap, rfl, _, hn, hg⟩ := own_form h
  refine ⟨ao, cap, rfl, hl, hn, fun h0 => ?_⟩
  obtain ⟨g, rfl⟩ := hg h0
  have hc : ∀ i (_ : i < xs.length) (j : Nat), j < 2 → w.cell? ⟨g, i * 2 + j, none⟩ = (rlay xs[i])[j]? := fun i hi j hj =>
    (World.ownsRow.cellAt h _ (by omega)).trans (flat_get rlay_len xs i hi j hj)
  refine ⟨g, 0, rfl, ?_, fun i hi => ?_⟩
  · have := hc 0 h0 0 (by omega)
    exact World.block_lt_of_cell? w _ this
  · simp only [Nat.zero_add]
    exact ⟨hc i hi 0 (by omega), hc i hi 1 (by omega)⟩

theorem Tryd.infoAttr : (Tryd.prog.info? 59).map (fun i => (i.zero, i.size, i.bytes)) = some (some (.agg #[.string .empty, .int .i64 0, .int .i64 0, .int .i64 0]), 4, 40) := by kernel_rfl
theorem Tryd.infoRule : (Tryd.prog.info? 55).map (fun i => (i.zero, i.size, i.bytes)) = some (some (.agg #[.string .empty, .string .empty]), 2, 32) := by kernel_rfl
theorem Tryd.sizeAttr : (Tryd.prog.info? 59).map (·.size) = some 4 := by kernel_rfl
theorem Tryd.sizeRule : (Tryd.prog.info? 55).map (·.size) = some 2 := by kernel_rfl
theorem Tryd.sizeType : (Tryd.prog.info? 25).map (·.size) = some 4 := by kernel_rfl
theorem cells_attr : (Value.agg #[.string .empty, .int .i64 0, .int .i64 0, .int .i64 0]).cells.size = 4 := by simp [Value.cells]
theorem cells_rule : (Value.agg #[.string .empty, .string .empty]).cells.size = 2 := by simp [Value.cells]

theorem append_attr (w : World) (ty : TypeId) (base : Nat) (v : Value) (xs : List At) (h : Ao w base v xs) (hb : base ≤ w.heap.size) (G : Nat) (x : At) (fr : Nat × Nat) (hG : w.heap[G]? = some (.cells (alay x).toArray 59 fr)) (hm : xs.length ≤ 1000000) :
    ∃ ao' cap' w', (Builtin.append_ #[22, 22] ty #[v, .slice (some ⟨G, 0, none⟩) 1 1]).run Tryd.prog w = .ok (.slice ao' (xs.length + 1) cap') w' ∧ Ao w' base (.slice ao' (xs.length + 1) cap') (xs ++ [x]) ∧ w.grownBy w' v.ownBlock ∧
      ((Value.slice ao' (xs.length + 1) cap').ownBlock = v.ownBlock ∨ (Value.slice ao' (xs.length + 1) cap').ownBlock = some w.heap.size) := by
  obtain ⟨i, hi, hz0, hz1, hz2⟩ := info_parts Tryd.infoAttr
  have hG' : w.heap[G]? = some (.cells (arow [x]).toArray 59 fr) := by rw [hG]; simp [arow]
  obtain ⟨v', w', hr, h2, h3, _, h5⟩ := run_append_own_at (P := Tryd.prog) w base 22 ty 59 i (.agg #[.string .empty, .int .i64 0, .int .i64 0, .int .i64 0]) 4 40 Tryd.underlying22 hi hz0 hz1 hz2 cells_attr (by decide) v xs.length (arow xs) h ⟨G, 0, none⟩ 1 1 (arow [x]) (by simp [arow, alay]) (World.news_of_block (w := w) hG') (flat_one alay_one [x]) (by unfold maxLen; omega) (by omega) hb
  obtain ⟨ao', cap', rfl, _⟩ := own_form h2
  refine ⟨ao', cap', w', hr, ?_, h3, h5⟩
  unfold Ao
  rw [arow, List.flatMap_append, List.length_append]
  exact h2
theorem append_rule (w : World) (ty : TypeId) (base : Nat) (v : Value) (xs : List Ru) (h : Ro w base v xs) (hb : base ≤ w.heap.size) (G : Nat) (x : Ru) (fr : Nat × Nat) (hG : w.heap[G]? = some (.cells (rlay x).toArray 55 fr)) (hm : xs.length ≤ 1000000) :
    ∃ ao' cap' w', (Builtin.append_ #[23, 23] ty #[v, .slice (some ⟨G, 0, none⟩) 1 1]).run Tryd.prog w = .ok (.slice ao' (xs.length + 1) cap') w' ∧ Ro w' base (.slice ao' (xs.length + 1) cap') (xs ++ [x]) ∧ w.grownBy w' v.ownBlock ∧
      ((Value.slice ao' (xs.length + 1) cap').ownBlock = v.ownBlock ∨ (Value.slice ao' (xs.length + 1) cap').ownBlock = some w.heap.size) := by
  obtain ⟨i, hi, hz0, hz1, hz2⟩ := info_parts Tryd.infoRule
  have hG' : w.heap[G]? = some (.cells (rrow [x]).toArray 55 fr) := by rw [hG]; simp [rrow]
  obtain ⟨v', w', hr, h2, h3, _, h5⟩ := run_append_own_at (P := Tryd.prog) w base 23 ty 55 i (.agg #[.string .empty, .string .empty]) 2 32 Tryd.underlying23 hi hz0 hz1 hz2 cells_rule (by decide) v xs.length (rrow xs) h ⟨G, 0, none⟩ 1 1 (rrow [x]) (by simp [rrow, rlay]) (World.news_of_block (w := w) hG') (flat_one rlay_one [x]) (by unfold maxLen; omega) (by omega) hb
  obtain ⟨ao', cap', rfl, _⟩ := own_form h2
  refine ⟨ao', cap', w', hr, ?_, h3, h5⟩
  unfold Ro
  rw [rrow, List.flatMap_append, List.length_append]
  exact h2
theorem wpList_append_attr {w : World} {ops : Array Oper} {rest : List Oper} {o : Oper} {a : Act} {Q : Exit → Act → World → Prop} (hgd : o.guard = none) (sl y : Operand) (ho : o.op = .call { callee := .builtin .append, args := #[sl, y], argTypes := #[22, 22] })
    (base : Nat) (v : Value) (xs : List At) (hs : a.eval sl = v) (h : Ao w base v xs) (hb : base ≤ w.heap.size) (G : Nat) (hy : a.eval y = .slice (some ⟨G, 0, none⟩) 1 1) (x : At) (fr : Nat × Nat) (hG : w.heap[G]? = some (.cells (alay x).toArray 59 fr)) (hm : xs.length ≤ 1000000)
    (hK : ∀ ao' cap' w', Ao w' base (.slice ao' (xs.length + 1) cap') (xs ++ [x]) → w.grownBy w' v.ownBlock → ((Value.slice ao' (xs.length + 1) cap').ownBlock = v.ownBlock ∨ (Value.slice ao' (xs.length + 1) cap').ownBlock = some w.heap.size) → wpList Tryd.prog ops Q rest (a.put o.dst (.slice ao' (xs.length + 1) cap')) w') : wpList Tryd.prog ops Q (o :: rest) a w := by
  refine wpList_plain hgd fun K hK' => ?_
  obtain ⟨ao', cap', w', hr, h2, h3, h4⟩ := append_attr w o.type base v xs h hb G x fr hG hm
  unfold Oper.wp execOp
  simp only [ho, resolve, invoke, builtin, Sem.run_bind, Sem.run_pure, Result.andThen_ok, List.map_toArray, List.map_cons, List.map_nil, hs, hy, hr]
  exact hK' _ _ (hK ao' cap' w' h2 h3 h4)
theorem wpList_append_rule {w : World} {ops : Array Oper} {rest : List Oper} {o : Oper} {a : Act} {Q : Exit → Act → World → Prop} (hgd : o.guard = none) (sl y : Operand) (ho : o.op = .call { callee := .builtin .append, args := #[sl, y], argTypes := #[23, 23] })
    (base : Nat) (v : Value) (xs : List Ru) (hs : a.eval sl = v) (h : Ro w base v xs) (hb : base ≤ w.heap.size) (G : Nat) (hy : a.eval y = .slice (some ⟨G, 0, none⟩) 1 1) (x : Ru) (fr : Nat × Nat) (hG : w.heap[G]? = some (.cells (rlay x).toArray 55 fr)) (hm : xs.length ≤ 1000000)
    (hK : ∀ ao' cap' w', Ro w' base (.slice ao' (xs.length + 1) cap') (xs ++ [x]) → w.grownBy w' v.ownBlock → ((Value.slice ao' (xs.length + 1) cap').ownBlock = v.ownBlock ∨ (Value.slice ao' (xs.length + 1) cap').ownBlock = some w.heap.size) → wpList Tryd.prog ops Q rest (a.put o.dst (.slice ao' (xs.length + 1) cap')) w') : wpList Tryd.prog ops Q (o :: rest) a w := by
  refine wpList_plain hgd fun K hK' => ?_
  obtain ⟨ao', cap', w', hr, h2, h3, h4⟩ := append_rule w o.type base v xs h hb G x fr hG hm
  unfold Oper.wp execOp
  simp only [ho, resolve, invoke, builtin, Sem.run_bind, Sem.run_pure, Result.andThen_ok, List.map_toArray, List.map_cons, List.map_nil, hs, hy, hr]
  exact hK' _ _ (hK ao' cap' w' h2 h3 h4)

/-- Results, the first of which lies in a variable of a struct's type. -/
theorem results_pair {fn : Func} {p u : Nat} {ty : TypeId} (h : fn.results = #[.cell p ty, .tmp u]) (tmps : Array Value) (w : World) {g : Nat} {v : Value} (hp : tmps.getD p undef = .pointer (some ⟨g, 0, none⟩)) (hl : (loadVar ty ⟨g, 0, none⟩).run Tryd.prog w = .ok v w) :
    (results fn tmps).run Tryd.prog w = .ok (.tuple #[v, tmps.getD u undef]) w := by
  rw [results_cell_tmp h, hp]
  simp [asAddr, Result.andThen, hl]
theorem load_attr {w : World} {g : Nat} {cs : Array Value} {t : TypeId} {fr : Nat × Nat} (hg : w.heap[g]? = some (.cells cs t fr)) (hc : cs.size = 4) : (loadVar 59 ⟨g, 0, none⟩).run Tryd.prog w = .ok (.agg cs) w :=
  run_loadVar_row w g t 59 cs fr _ hg Tryd.underlying59 rfl (by rw [hc]; exact Tryd.sizeAttr)
theorem load_rule {w : World} {g : Nat} {cs : Array Value} {t : TypeId} {fr : Nat × Nat} (hg : w.heap[g]? = some (.cells cs t fr)) (hc : cs.size = 2) : (loadVar 55 ⟨g, 0, none⟩).run Tryd.prog w = .ok (.agg cs) w :=
  run_loadVar_row w g t 55 cs fr _ hg Tryd.underlying55 rfl (by rw [hc]; exact Tryd.sizeRule)
theorem load_type {w : World} {g : Nat} {cs : Array Value} {t : TypeId} {fr : Nat × Nat} (hg : w.heap[g]? = some (.cells cs t fr)) (hc : cs.size = 4) : (loadVar 25 ⟨g, 0, none⟩).run Tryd.prog w = .ok (.agg cs) w :=
  run_loadVar_row w g t 25 cs fr _ hg Tryd.underlying25 rfl (by rw [hc]; exact Tryd.sizeType)
theorem set_cell {w : World} {b : Nat} {cs : Array Value} {t : TypeId} {fr : Nat × Nat} (h : w.heap[b]? = some (.cells cs t fr)) (k : Nat) (u : Value) : (w.setCell ⟨b, k, none⟩ u).heap[b]? = some (.cells (cs.setIfInBounds k u) t fr) := by
  have hlt := lt_of_block h
  have h' : w.heap[b] = .cells cs t fr := by simpa [Array.getElem?_eq_getElem hlt] using h
  show (w.heap.modify b _)[b]? = _
  rw [Array.getElem?_eq_getElem (by simpa using hlt), Array.getElem_modify_self, h']
  rfl
theorem Kept.setNew {p : Nat → Prop} {a w : World} (h : Kept p a w) {ad : Addr} (hp : a.heap.size ≤ ad.block) (u : Value) : Kept p a (w.setCell ad u) :=
  ⟨h.os, h.tape, h.output, by simpa [World.setCell] using h.size, fun k hk hpk => (Below.heap_setCell _ _ _ _ (by omega)).trans (h.block k hk hpk)⟩
theorem four_cell {w : World} {b : Nat} {x y z u : Value} {t : TypeId} (h : w.heap[b]? = some (.cells #[x, y, z, u] t (0, 0))) :
    (w.cell? ⟨b, 0, none⟩ = some x ∧ w.cell? ⟨b, 1, none⟩ = some y ∧ w.cell? ⟨b, 2, none⟩ = some z ∧ w.cell? ⟨b, 3, none⟩ = some u) ∧ (w.frozen? ⟨b, 0, none⟩ = false ∧ w.frozen? ⟨b, 1, none⟩ = false ∧ w.frozen? ⟨b, 2, none⟩ = false ∧ w.frozen? ⟨b, 3, none⟩ = false) :=
  ⟨⟨by simp [World.cell?, h], by simp [World.cell?, h], by simp [World.cell?, h], by simp [World.cell?, h]⟩, by simp [World.frozen?, h], by simp [World.frozen?, h], by simp [World.frozen?, h], by simp [World.frozen?, h]⟩
theorem pair_cell {w : World} {b : Nat} {x y : Value} {t : TypeId} (h : w.heap[b]? = some (.cells #[x, y] t (0, 0))) :
    (w.cell? ⟨b, 0, none⟩ = some x ∧ w.cell? ⟨b, 1, none⟩ = some y) ∧ (w.frozen? ⟨b, 0, none⟩ = false ∧ w.frozen? ⟨b, 1, none⟩ = false) :=
  ⟨⟨by simp [World.cell?, h], by simp [World.cell?, h]⟩, by simp [World.frozen?, h], by simp [World.frozen?, h]⟩

def At.none : At := ⟨[], 0, 0, 0⟩
def Ru.none : Ru := ⟨[], []⟩
/-- A number word that is none: what stands behind it does not matter. -/
theorem rdA_none1 {s : List UInt8} (h : isNum (wrd (wrd s).2).1 = false) : rdA s = none := by
  unfold rdA
  rw [if_neg (fun h' => by rw [h'.1] at h; cases h)]
theorem rdA_none2 {s : List UInt8} (h : isNum (wrd (wrd (wrd s).2).2).1 = false) : rdA s = none := by
  unfold rdA
  rw [if_neg (fun h' => by rw [h'.2.1] at h; cases h)]
theorem rdA_none3 {s : List UInt8} (h : isNum (wrd (wrd (wrd (wrd s).2).2).2).1 = false) : rdA s = none := by
  unfold rdA
  rw [if_neg (fun h' => by rw [h'.2.2.1] at h; cases h)]
theorem rdA_none4 {s : List UInt8} (h : ¬ (wrd (wrd (wrd (wrd s).2).2).2).2 = []) : rdA s = none := by
  unfold rdA
  rw [if_neg (fun h' => h h'.2.2.2)]
theorem rdA_some {s : List UInt8} (h1 : isNum (wrd (wrd s).2).1 = true) (h2 : isNum (wrd (wrd (wrd s).2).2).1 = true) (h3 : isNum (wrd (wrd (wrd (wrd s).2).2).2).1 = true) (h4 : (wrd (wrd (wrd (wrd s).2).2).2).2 = []) :
    rdA s = some ⟨(wrd s).1, nm (wrd (wrd s).2).1, nm (wrd (wrd (wrd s).2).2).1, nm (wrd (wrd (wrd (wrd s).2).2).2).1⟩ := by
  unfold rdA nm
  rw [if_pos ⟨h1, h2, h3, h4⟩, if_pos h1, if_pos h2, if_pos h3]
/-- What keep leaves. -/
structure Put (w w' : World) (base : Nat) (v v' : Value) : Prop where
  kept : Kept (fun k => v.ownBlock ≠ some k) w w'
  row : ∀ k, v'.ownBlock = some k → v.ownBlock = some k ∨ w.heap.size ≤ k
end Go.Proofs.YtnddpalngjmhnaaDoor
