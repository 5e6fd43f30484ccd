/-
  Rows of numbers and of truths: looked at, one's own, appended to, made; a state in memory.
-/
import Derived.Test.YtnddpalngjmhnabDoorVPlain
import Derived.Test.YtnddpalngjmhnabDoorT5
import Derived.Test.YtnddpalngjmhnabDoorPInts
import Derived.Deep.OwnRows
import Derived.Deep.CutRange
import Derived.Deep.RegionHeld3
import Derived.Laws.Cover1
namespace Go.Proofs.YtnddpalngjmhnabDoor
open Go.RowKit

def iv (xs : List Int) : List Value := xs.map (Value.int .i64)
def bv (xs : List Bool) : List Value := xs.map Value.bool
theorem iv_len (xs : List Int) : (iv xs).length = xs.length := by simp [iv]
theorem bv_len (xs : List Bool) : (bv xs).length = xs.length := by simp [bv]
theorem iv_one (xs : List Int) : ∀ u ∈ iv xs, u.oneCell' = true := by
  intro u hu
  obtain ⟨n, _, rfl⟩ := List.mem_map.1 hu
  rfl
theorem bv_one (xs : List Bool) : ∀ u ∈ bv xs, u.oneCell' = true := by
  intro u hu
  obtain ⟨n, _, rfl⟩ := List.mem_map.1 hu
  rfl
theorem iv_append (a b : List Int) : iv (a ++ b) = iv a ++ iv b := by simp [iv]
theorem bv_append (a b : List Bool) : bv (a ++ b) = bv a ++ bv b := by simp [bv]
theorem iv_set (a : List Int) (i : Nat) (n : Int) : (iv a).set i (.int .i64 n) = iv (a.set i n) := by simp [iv, List.map_set]
theorem bv_set (a : List Bool) (i : Nat) (n : Bool) : (bv a).set i (.bool n) = bv (a.set i n) := by simp [bv, List.map_set]

/-- A row of cells that is looked at. -/
def Cv (w : World) (v : Value) (xs : List Value) : Prop :=
  ∃ ao cap, v = .slice ao xs.length cap ∧ xs.length ≤ 281474976710656 ∧ (ao = none → cap = 0) ∧ (0 < xs.length → ∃ b off, ao = some ⟨b, off, none⟩ ∧ b < w.heap.size ∧ ∀ i (h : i < xs.length), w.cell? ⟨b, off + i, none⟩ = some xs[i])
theorem Cv.kept {p : Nat → Prop} {w w' : World} {v : Value} {xs : List Value} (h : Cv w v xs) (k : Kept p w w') (hp : ∀ b, b < w.heap.size → p b) : Cv w' v xs := by
  obtain ⟨ao, cap, e, hl, hn, h⟩ := h
  refine ⟨ao, cap, e, hl, hn, fun h0 => ?_⟩
  obtain ⟨b, off, e, hb, hc⟩ := h h0
  exact ⟨b, off, e, Nat.lt_of_lt_of_le hb k.size, fun i hi => (kept_cell k hb (hp b hb)).trans (hc i hi)⟩
theorem Cv.all {w w' : World} {v : Value} {xs : List Value} (h : Cv w v xs) (k : Kept (fun _ => True) w w') : Cv w' v xs := h.kept k (fun _ _ => trivial)
theorem Cv.nil (w : World) : Cv w (.slice none 0 0) [] := ⟨none, 0, rfl, by simp, fun _ => rfl, fun h => by simp at h⟩
theorem Cv.vi {w : World} {v : Value} {xs : List Int} (h : Cv w v (iv xs)) : Vi w v xs := by
  obtain ⟨ao, cap, e, hl, hn, h⟩ := h
  rw [iv_len] at e hl
  refine ⟨ao, cap, e, fun h0 => ?_⟩
  obtain ⟨b, off, e, hb, hc⟩ := h (by rw [iv_len]; exact h0)
  exact ⟨b, off, e, hb, fun i hi => by rw [hc i (by rw [iv_len]; exact hi)]; simp [iv]⟩
theorem Cv.ints {w : World} {v : Value} {xs : List Int} (h : Cv w v (iv xs)) : ∃ ao cap, v = .slice ao xs.length cap ∧ xs.length ≤ 281474976710656 ∧ ∀ i (hi : i < xs.length), ∃ b off, ao = some ⟨b, off, none⟩ ∧ b < w.heap.size ∧ w.cell? ⟨b, off + i, none⟩ = some (.int .i64 xs[i]) := by
  obtain ⟨ao, cap, e, hl, hn, h⟩ := h
  rw [iv_len] at e hl
  refine ⟨ao, cap, e, hl, fun i hi => ?_⟩
  obtain ⟨b, off, e, hb, hc⟩ := h (by rw [iv_len]; omega)
  exact ⟨b, off, e, hb, by rw [hc i (by rw [iv_len]; exact hi)]; simp [iv]⟩
theorem Cv.bools {w : World} {v : Value} {xs : List Bool} (h : Cv w v (bv xs)) : ∃ ao cap, v = .slice ao xs.length cap ∧ xs.length ≤ 281474976710656 ∧ ∀ i (hi : i < xs.length), ∃ b off, ao = some ⟨b, off, none⟩ ∧ b < w.heap.size ∧ w.cell? ⟨b, off + i, none⟩ = some (.bool xs[i]) := by
  obtain ⟨ao, cap, e, hl, hn, h⟩ := h
  rw [bv_len] at e hl
  refine ⟨ao, cap, e, hl, fun i hi => ?_⟩
  obtain ⟨b, off, e, hb, hc⟩ := h (by rw [bv_len]; omega)
  exact ⟨b, off, e, hb, by rw [hc i (by rw [bv_len]; exact hi)]; simp [bv]⟩
/-- The same at a place, the slice's parts known. -/
theorem Cv.intAt {w : World} {ao : Option Addr} {n cap : Nat} {xs : List Int} (h : Cv w (.slice ao n cap) (iv xs)) (i : Nat) (hi : i < xs.length) : ∃ b off, ao = some ⟨b, off, none⟩ ∧ b < w.heap.size ∧ w.cell? ⟨b, off + i, none⟩ = some (.int .i64 xs[i]) := by
  obtain ⟨ao', cap', e, _, h2⟩ := h.ints
  cases e
  exact h2 i hi
theorem Cv.boolAt {w : World} {ao : Option Addr} {n cap : Nat} {xs : List Bool} (h : Cv w (.slice ao n cap) (bv xs)) (i : Nat) (hi : i < xs.length) : ∃ b off, ao = some ⟨b, off, none⟩ ∧ b < w.heap.size ∧ w.cell? ⟨b, off + i, none⟩ = some (.bool xs[i]) := by
  obtain ⟨ao', cap', e, _, h2⟩ := h.bools
  cases e
  exact h2 i hi
theorem own_cv {w : World} {b e n : Nat} {v : Value} {xs : List Value} (h : w.ownsRow b e 1 v n xs) (hl : n ≤ 281474976710656) : Cv w v xs := by
  have hx := h.1
  rw [Nat.mul_one] at hx
  rcases h.2 with ⟨rfl, rfl⟩ | ⟨g, cap, cur, rfl, hb, hg, h1, h2, h3, h4⟩
  · obtain rfl := List.eq_nil_of_length_eq_zero hx
    exact Cv.nil w
  · refine ⟨some ⟨g, 0, none⟩, cap, by rw [hx], by rw [hx]; exact hl, fun h => (by cases h), fun _ => ⟨g, 0, rfl, lt_of_block hg, fun i hi => ?_⟩⟩
    rw [Nat.zero_add, h.cellAt i (by omega)]
    simp [hi]
theorem Tryd.infoNum : (Tryd.prog.info? 3).map (fun i => (i.zero, i.size, i.bytes)) = some (some (.int .i64 0), 1, 8) := by kernel_rfl
theorem Tryd.infoTruth : (Tryd.prog.info? 4).map (fun i => (i.zero, i.size, i.bytes)) = some (some (.bool false), 1, 1) := by kernel_rfl

theorem append_nums (w : World) (ty : TypeId) (base : Nat) (v : Value) (n : Nat) (xs : List Value) (h : w.ownsRow base 3 1 v n xs) (hb : base ≤ w.heap.size) (y : Value) (ys : List Value) (hy : Cv w y ys) (h1 : ∀ u ∈ ys, u.oneCell' = true) (hm : n + ys.length ≤ 100000000) :
    ∃ ao' cap' w', (Builtin.append_ #[29, 29] ty #[v, y]).run Tryd.prog w = .ok (.slice ao' (n + ys.length) cap') w' ∧ w'.ownsRow base 3 1 (.slice ao' (n + ys.length) cap') (n + ys.length) (xs ++ ys) ∧ w.grownBy w' v.ownBlock ∧ ((Value.slice ao' (n + ys.length) cap').ownBlock = v.ownBlock ∨ (Value.slice ao' (n + ys.length) cap').ownBlock = some w.heap.size) := by
  obtain ⟨i, hi, hz0, hz1, hz2⟩ := info_parts Tryd.infoNum
  obtain ⟨ao, cap, rfl, _, hn, hc⟩ := hy
  cases ao with
  | none =>
    have hc0 := hn rfl
    have h0 : ys.length = 0 := by
      rcases Nat.eq_zero_or_pos ys.length with h | h
      · exact h
      · obtain ⟨_, _, e, _⟩ := hc h; cases e
    obtain rfl := List.eq_nil_of_length_eq_zero h0
    subst hc0
    have hrun := run_append_owned_none (P := Tryd.prog) (w := w) base 29 ty 3 i 1 Tryd.underlying29 hi v n xs h
    obtain ⟨ao', cap', rfl, _⟩ := own_form h
    exact ⟨ao', cap', w, hrun, by simpa using h, ⟨rfl, rfl, rfl, Nat.le_refl _, fun _ _ _ => rfl⟩, .inl rfl⟩
  | some ad =>
    have hsrc : ∀ j u, ys[j]? = some u → w.cell? (ad.add j) = some u := by
      intro j u hu
      obtain ⟨hj, e⟩ := List.getElem?_eq_some_iff.1 hu
      obtain ⟨b, off, e2, _, hc'⟩ := hc (by omega)
      cases e2
      rw [WideShapes.add_plain, hc' j hj, e]
    obtain ⟨v', w', hr, h2, h3, _, h5⟩ := run_append_own_at (P := Tryd.prog) w base 29 ty 3 i (.int .i64 0) 1 8 Tryd.underlying29 hi hz0 hz1 hz2 (by simp [Value.cells]) (by decide) v n xs h ad ys.length cap ys (by omega) hsrc h1 (by unfold maxLen; omega) (by omega) hb
    obtain ⟨ao', cap', rfl, _⟩ := own_form h2
    exact ⟨ao', cap', w', hr, h2, h3, h5⟩
theorem wpList_append_nums {w : World} {ops : Array Oper} {rest : List Oper} {o : Oper} {a : Act} {Q : Exit → Act → World → Prop} (hgd : o.guard = none) (sl y : Operand) (ho : o.op = .call { callee := .builtin .append, args := #[sl, y], argTypes := #[29, 29] })
    (base : Nat) (v : Value) (n : Nat) (xs : List Value) (hs : a.eval sl = v) (h : w.ownsRow base 3 1 v n xs) (hb : base ≤ w.heap.size) (yv : Value) (hy : a.eval y = yv) (ys : List Value) (hR : Cv w yv ys) (h1 : ∀ u ∈ ys, u.oneCell' = true) (hm : n + ys.length ≤ 100000000) (N : Nat) (hN : n + ys.length = N)
    (hK : ∀ ao' cap' w', w'.ownsRow base 3 1 (.slice ao' N cap') N (xs ++ ys) → w.grownBy w' v.ownBlock → ((Value.slice ao' N cap').ownBlock = v.ownBlock ∨ (Value.slice ao' N cap').ownBlock = some w.heap.size) → wpList Tryd.prog ops Q rest (a.put o.dst (.slice ao' N cap')) w') : wpList Tryd.prog ops Q (o :: rest) a w := by
  subst hN
  refine wpList_plain hgd fun K hK' => ?_
  obtain ⟨ao', cap', w', hr, h2, h3, h4⟩ := append_nums w o.type base v n xs h hb yv ys hR h1 hm
  unfold Oper.wp execOp
  simp only [ho, resolve, invoke, builtin, Sem.run_bind, Sem.run_pure, Result.andThen_ok, List.map_toArray, List.map_cons, List.map_nil, hs, hy, hr]
  exact hK' _ _ (hK ao' cap' w' h2 h3 h4)
theorem step_append_nums {w : World} {ops : Array Oper} {o : Oper} {a : Act} {K : Act → World → Prop} {Q : Exit → Act → World → Prop} {E : Prop} (hgd : o.guard = none) (sl y : Operand) (ho : o.op = .call { callee := .builtin .append, args := #[sl, y], argTypes := #[29, 29] })
    (base : Nat) (v : Value) (n : Nat) (xs : List Value) (hs : a.eval sl = v) (h : w.ownsRow base 3 1 v n xs) (hb : base ≤ w.heap.size) (yv : Value) (hy : a.eval y = yv) (ys : List Value) (hR : Cv w yv ys) (h1 : ∀ u ∈ ys, u.oneCell' = true) (hm : n + ys.length ≤ 100000000) (N : Nat) (hN : n + ys.length = N)
    (hK : ∀ ao' cap' w', w'.ownsRow base 3 1 (.slice ao' N cap') N (xs ++ ys) → w.grownBy w' v.ownBlock → ((Value.slice ao' N cap').ownBlock = v.ownBlock ∨ (Value.slice ao' N cap').ownBlock = some w.heap.size) → K (a.put o.dst (.slice ao' N cap')) w') : if Region.wanted o (yielded ops a.tmps) = true then Oper.wp Tryd.prog o a w K Q else E := by
  subst hN
  have hw : Region.wanted o (yielded ops a.tmps) = true := by simp [Region.wanted, hgd]
  rw [if_pos hw]
  obtain ⟨ao', cap', w', hr, h2, h3, h4⟩ := append_nums w o.type base v n xs h hb yv ys hR h1 hm
  unfold Oper.wp execOp
  simp only [ho, resolve, invoke, builtin, Sem.run_bind, Sem.run_pure, Result.andThen_ok, List.map_toArray, List.map_cons, List.map_nil, hs, hy, hr]
  exact hK ao' cap' w' h2 h3 h4
theorem make_nums (n : Nat) (hn : n ≤ 1000000) (W : World) : (Instr.makeSlice 29 (.int .i64 (n : Int)) (.int .i64 (n : Int))).run Tryd.prog W = .ok (.slice (some ⟨W.heap.size, 0, none⟩) n n) (W.alloc (.cells (madeCells #[.int .i64 0] n) 3)) :=
  run_make_row' (P := Tryd.prog) 29 3 (.int .i64 0) 8 Tryd.underlying29 Tryd.infoNum (by simp [Value.cells]) .i64 .i64 n (by omega) (by omega) W
theorem made_nums (w : World) (base n : Nat) (hn : n ≤ 1000000) (hb : base ≤ w.heap.size) : (w.alloc (.cells (madeCells #[.int .i64 0] n) 3)).ownsRow base 3 1 (.slice (some ⟨w.heap.size, 0, none⟩) n n) n (iv (List.replicate n (0 : Int))) := by
  have h := World.ownsRow_lit (base := base) (e := 3) (size := 1) w (madeCells #[.int .i64 0] n) n hb (by unfold maxLen; omega) (by simp [madeCells])
  rw [toList_madeCells_one] at h
  simpa [iv] using h
theorem empty_nums (w : World) (base : Nat) (hb : base ≤ w.heap.size) : (w.alloc (.cells #[] 3)).ownsRow base 3 1 (.slice (some ⟨w.heap.size, 0, none⟩) 0 0) 0 [] :=
  World.ownsRow_lit (base := base) (e := 3) (size := 1) w #[] 0 hb (by unfold maxLen; omega) (by simp)
/-- One that lies in a block of its own. -/
theorem Cv.one_nums {w : World} {G : Nat} {u : Value} {fr : Nat × Nat} (h : w.heap[G]? = some (.cells #[u] 3 fr)) : Cv w (.slice (some ⟨G, 0, none⟩) 1 1) [u] :=
  ⟨_, _, rfl, by simp, fun h => (by cases h), fun _ => ⟨G, 0, rfl, lt_of_block h, fun i hi => by
    have : i = 0 := by simpa using hi
    subst this
    rw [cell_of_row w G _ _ _ _ h]; rfl⟩⟩

theorem append_truths (w : World) (ty : TypeId) (base : Nat) (v : Value) (n : Nat) (xs : List Value) (h : w.ownsRow base 4 1 v n xs) (hb : base ≤ w.heap.size) (y : Value) (ys : List Value) (hy : Cv w y ys) (h1 : ∀ u ∈ ys, u.oneCell' = true) (hm : n + ys.length ≤ 100000000) :
    ∃ ao' cap' w', (Builtin.append_ #[30, 30] ty #[v, y]).run Tryd.prog w = .ok (.slice ao' (n + ys.length) cap') w' ∧ w'.ownsRow base 4 1 (.slice ao' (n + ys.length) cap') (n + ys.length) (xs ++ ys) ∧ w.grownBy w' v.ownBlock ∧ ((Value.slice ao' (n + ys.length) cap').ownBlock = v.ownBlock ∨ (Value.slice ao' (n + ys.length) cap').ownBlock = some w.heap.size) := by
  obtain ⟨i, hi, hz0, hz1, hz2⟩ := info_parts Tryd.infoTruth
  obtain ⟨ao, cap, rfl, _, hn, hc⟩ := hy
  cases ao with
  | none =>
    have hc0 := hn rfl
    have h0 : ys.length = 0 := by
      rcases Nat.eq_zero_or_pos ys.length with h | h
      · exact h
      · obtain ⟨_, _, e, _⟩ := hc h; cases e
    obtain rfl := List.eq_nil_of_length_eq_zero h0
    subst hc0
    have hrun := run_append_owned_none (P := Tryd.prog) (w := w) base 30 ty 4 i 1 Tryd.underlying30 hi v n xs h
    obtain ⟨ao', cap', rfl, _⟩ := own_form h
    exact ⟨ao', cap', w, hrun, by simpa using h, ⟨rfl, rfl, rfl, Nat.le_refl _, fun _ _ _ => rfl⟩, .inl rfl⟩
  | some ad =>
    have hsrc : ∀ j u, ys[j]? = some u → w.cell? (ad.add j) = some u := by
      intro j u hu
      obtain ⟨hj, e⟩ := List.getElem?_eq_some_iff.1 hu
      obtain ⟨b, off, e2, _, hc'⟩ := hc (by omega)
      cases e2
      rw [WideShapes.add_plain, hc' j hj, e]
    obtain ⟨v', w', hr, h2, h3, _, h5⟩ := run_append_own_at (P := Tryd.prog) w base 30 ty 4 i (.bool false) 1 1 Tryd.underlying30 hi hz0 hz1 hz2 (by simp [Value.cells]) (by decide) v n xs h ad ys.length cap ys (by omega) hsrc h1 (by unfold maxLen; omega) (by omega) hb
    obtain ⟨ao', cap', rfl, _⟩ := own_form h2
    exact ⟨ao', cap', w', hr, h2, h3, h5⟩
theorem wpList_append_truths {w : World} {ops : Array Oper} {rest : List Oper} {o : Oper} {a : Act} {Q : Exit → Act → World → Prop} (hgd : o.guard = none) (sl y : Operand) (ho : o.op = .call { callee := .builtin .append, args := #[sl, y], argTypes := #[30, 30] })
    (base : Nat) (v : Value) (n : Nat) (xs : List Value) (hs : a.eval sl = v) (h : w.ownsRow base 4 1 v n xs) (hb : base ≤ w.heap.size) (yv : Value) (hy : a.eval y = yv) (ys : List Value) (hR : Cv w yv ys) (h1 : ∀ u ∈ ys, u.oneCell' = true) (hm : n + ys.length ≤ 100000000) (N : Nat) (hN : n + ys.length = N)
    (hK : ∀ ao' cap' w', w'.ownsRow base 4 1 (.slice ao' N cap') N (xs ++ ys) → w.grownBy w' v.ownBlock → ((Value.slice ao' N cap').ownBlock = v.ownBlock ∨ (Value.slice ao' N cap').ownBlock = some w.heap.size) → wpList Tryd.prog ops Q rest (a.put o.dst (.slice ao' N cap')) w') : wpList Tryd.prog ops Q (o :: rest) a w := by
  subst hN
  refine wpList_plain hgd fun K hK' => ?_
  obtain ⟨ao', cap', w', hr, h2, h3, h4⟩ := append_truths w o.type base v n xs h hb yv ys hR h1 hm
  unfold Oper.wp execOp
  simp only [ho, resolve, invoke, builtin, Sem.run_bind, Sem.run_pure, Result.andThen_ok, List.map_toArray, List.map_cons, List.map_nil, hs, hy, hr]
  exact hK' _ _ (hK ao' cap' w' h2 h3 h4)
theorem step_append_truths {w : World} {ops : Array Oper} {o : Oper} {a : Act} {K : Act → World → Prop} {Q : Exit → Act → World → Prop} {E : Prop} (hgd : o.guard = none) (sl y : Operand) (ho : o.op = .call { callee := .builtin .append, args := #[sl, y], argTypes := #[30, 30] })
    (base : Nat) (v : Value) (n : Nat) (xs : List Value) (hs : a.eval sl = v) (h : w.ownsRow base 4 1 v n xs) (hb : base ≤ w.heap.size) (yv : Value) (hy : a.eval y = yv) (ys : List Value) (hR : Cv w yv ys) (h1 : ∀ u ∈ ys, u.oneCell' = true) (hm : n + ys.length ≤ 100000000) (N : Nat) (hN : n + ys.length = N)
    (hK : ∀ ao' cap' w', w'.ownsRow base 4 1 (.slice ao' N cap') N (xs ++ ys) → w.grownBy w' v.ownBlock → ((Value.slice ao' N cap').ownBlock = v.ownBlock ∨ (Value.slice ao' N cap').ownBlock = some w.heap.size) → K (a.put o.dst (.slice ao' N cap')) w') : if Region.wanted o (yielded ops a.tmps) = true then Oper.wp Tryd.prog o a w K Q else E := by
  subst hN
  have hw : Region.wanted o (yielded ops a.tmps) = true := by simp [Region.wanted, hgd]
  rw [if_pos hw]
  obtain ⟨ao', cap', w', hr, h2, h3, h4⟩ := append_truths w o.type base v n xs h hb yv ys hR h1 hm
  unfold Oper.wp execOp
  simp only [ho, resolve, invoke, builtin, Sem.run_bind, Sem.run_pure, Result.andThen_ok, List.map_toArray, List.map_cons, List.map_nil, hs, hy, hr]
  exact hK ao' cap' w' h2 h3 h4
theorem make_truths (n : Nat) (hn : n ≤ 1000000) (W : World) : (Instr.makeSlice 30 (.int .i64 (n : Int)) (.int .i64 (n : Int))).run Tryd.prog W = .ok (.slice (some ⟨W.heap.size, 0, none⟩) n n) (W.alloc (.cells (madeCells #[.bool false] n) 4)) :=
  run_make_row' (P := Tryd.prog) 30 4 (.bool false) 1 Tryd.underlying30 Tryd.infoTruth (by simp [Value.cells]) .i64 .i64 n (by omega) (by omega) W
theorem made_truths (w : World) (base n : Nat) (hn : n ≤ 1000000) (hb : base ≤ w.heap.size) : (w.alloc (.cells (madeCells #[.bool false] n) 4)).ownsRow base 4 1 (.slice (some ⟨w.heap.size, 0, none⟩) n n) n (bv (List.replicate n false)) := by
  have h := World.ownsRow_lit (base := base) (e := 4) (size := 1) w (madeCells #[.bool false] n) n hb (by unfold maxLen; omega) (by simp [madeCells])
  rw [toList_madeCells_one] at h
  simpa [bv] using h
theorem empty_truths (w : World) (base : Nat) (hb : base ≤ w.heap.size) : (w.alloc (.cells #[] 4)).ownsRow base 4 1 (.slice (some ⟨w.heap.size, 0, none⟩) 0 0) 0 [] :=
  World.ownsRow_lit (base := base) (e := 4) (size := 1) w #[] 0 hb (by unfold maxLen; omega) (by simp)
/-- One that lies in a block of its own. -/
theorem Cv.one_truths {w : World} {G : Nat} {u : Value} {fr : Nat × Nat} (h : w.heap[G]? = some (.cells #[u] 4 fr)) : Cv w (.slice (some ⟨G, 0, none⟩) 1 1) [u] :=
  ⟨_, _, rfl, by simp, fun h => (by cases h), fun _ => ⟨G, 0, rfl, lt_of_block h, fun i hi => by
    have : i = 0 := by simpa using hi
    subst this
    rw [cell_of_row w G _ _ _ _ h]; rfl⟩⟩

/-- A state that is looked at; one of one's own, from base on. -/
def StV (w : World) (v : Value) (s : Sa) : Prop := ∃ va vd vg, v = .agg #[.string ⟨s.type.toArray⟩, va, vd, vg] ∧ Cv w va (iv s.vals) ∧ Cv w vd (bv s.done) ∧ Cv w vg (bv s.got)
structure So (w : World) (base : Nat) (va vd vg : Value) (s : Sa) : Prop where
  vals : w.ownsRow base 3 1 va s.vals.length (iv s.vals)
  done : w.ownsRow base 4 1 vd s.done.length (bv s.done)
  got : w.ownsRow base 4 1 vg s.got.length (bv s.got)
  apart : ∀ k, vd.ownBlock = some k → vg.ownBlock ≠ some k
def StO (w : World) (base : Nat) (v : Value) (s : Sa) : Prop := ∃ va vd vg, v = .agg #[.string ⟨s.type.toArray⟩, va, vd, vg] ∧ So w base va vd vg s
/-- Few of each. -/
structure Few (s : Sa) : Prop where
  vals : s.vals.length ≤ 1000000
  done : s.done.length ≤ 1000000
  got : s.got.length ≤ 1000000
theorem Fit.few {t : Ty} {s : Sa} (h : Fit t s) (g : Good t) : Few s := by
  have := g.na; have := g.ns; have := g.nm; have := h.sz.vals; have := h.sz.done; have := h.sz.got
  exact ⟨by omega, by omega, by omega⟩
theorem StV.all {w w' : World} {v : Value} {s : Sa} (h : StV w v s) (k : Kept (fun _ => True) w w') : StV w' v s := by
  obtain ⟨va, vd, vg, e, h1, h2, h3⟩ := h
  exact ⟨va, vd, vg, e, h1.all k, h2.all k, h3.all k⟩
theorem StV.low {w w' : World} {v : Value} {s : Sa} (h : StV w v s) (k : Kept (· < w.heap.size) w w') : StV w' v s := by
  obtain ⟨va, vd, vg, e, h1, h2, h3⟩ := h
  exact ⟨va, vd, vg, e, h1.kept k (fun _ h => h), h2.kept k (fun _ h => h), h3.kept k (fun _ h => h)⟩
theorem StV.none (w : World) : StV w (.agg #[.string ⟨#[]⟩, .slice none 0 0, .slice none 0 0, .slice none 0 0]) Sa.none := ⟨_, _, _, rfl, Cv.nil w, Cv.nil w, Cv.nil w⟩
theorem So.all {w w' : World} {base : Nat} {va vd vg : Value} {s : Sa} (h : So w base va vd vg s) (k : Kept (fun _ => True) w w') : So w' base va vd vg s :=
  ⟨own_keep h.vals k (fun _ _ => trivial), own_keep h.done k (fun _ _ => trivial), own_keep h.got k (fun _ _ => trivial), h.apart⟩
theorem StO.all {w w' : World} {base : Nat} {v : Value} {s : Sa} (h : StO w base v s) (k : Kept (fun _ => True) w w') : StO w' base v s := by
  obtain ⟨va, vd, vg, e, h⟩ := h
  exact ⟨va, vd, vg, e, h.all k⟩
theorem StO.none (w : World) (base : Nat) : StO w base (.agg #[.string ⟨#[]⟩, .slice none 0 0, .slice none 0 0, .slice none 0 0]) Sa.none :=
  ⟨_, _, _, rfl, World.ownsRow_nil _ _ _ _, World.ownsRow_nil _ _ _ _, World.ownsRow_nil _ _ _ _, fun k h => (by cases h)⟩
theorem StO.lower {w : World} {base b : Nat} {v : Value} {s : Sa} (h : StO w base v s) (hb : b ≤ base) : StO w b v s := by
  obtain ⟨va, vd, vg, e, h⟩ := h
  exact ⟨va, vd, vg, e, ownsRow_low h.vals hb, ownsRow_low h.done hb, ownsRow_low h.got hb, h.apart⟩
theorem So.view {w : World} {base : Nat} {va vd vg : Value} {s : Sa} (h : So w base va vd vg s) (f : Few s) : Cv w va (iv s.vals) ∧ Cv w vd (bv s.done) ∧ Cv w vg (bv s.got) := by
  have := f.vals; have := f.done; have := f.got
  exact ⟨own_cv h.vals (by omega), own_cv h.done (by omega), own_cv h.got (by omega)⟩
theorem StO.view {w : World} {base : Nat} {v : Value} {s : Sa} (h : StO w base v s) (f : Few s) : StV w v s := by
  obtain ⟨va, vd, vg, e, h⟩ := h
  obtain ⟨h1, h2, h3⟩ := h.view f
  exact ⟨va, vd, vg, e, h1, h2, h3⟩
theorem TyV.low {w w' : World} {v : Value} {t : Ty} (h : TyV w v t) (k : Kept (· < w.heap.size) w w') : TyV w' v t := by
  obtain ⟨va, vs, vm, e, ⟨a1, a2, a3, a4, a5, a6⟩, ⟨b1, b2, b3, b4, b5, b6⟩, ⟨c1, c2, c3, c4, c5, c6⟩⟩ := h
  refine ⟨va, vs, vm, e, ⟨a1, a2, a3, a4, a5, fun h0 => ?_⟩, ⟨b1, b2, b3, b4, b5, fun h0 => ?_⟩, ⟨c1, c2, c3, c4, c5, fun h0 => ?_⟩⟩
  · obtain ⟨b, off, e, hb, hc⟩ := a6 h0
    refine ⟨b, off, e, Nat.lt_of_lt_of_le hb k.size, fun i hi => ?_⟩
    simp only [kept_cell k hb hb]
    exact hc i hi
  · obtain ⟨b, off, e, hb, hc⟩ := b6 h0
    refine ⟨b, off, e, Nat.lt_of_lt_of_le hb k.size, fun i hi => ?_⟩
    simp only [kept_cell k hb hb]
    exact hc i hi
  · obtain ⟨b, off, e, hb, hc⟩ := c6 h0
    refine ⟨b, off, e, Nat.lt_of_lt_of_le hb k.size, fun i hi => ?_⟩
    simp only [kept_cell k hb hb]
    exact hc i hi
theorem types_differ {w : World} {b1 b2 n m : Nat} {u v : Value} {xs ys : List Value} (h : w.ownsRow b1 3 1 u n xs) (k : w.ownsRow b2 4 1 v m ys) : ∀ i, u.ownBlock = some i → v.ownBlock ≠ some i := by
  intro i hu hv
  rcases h.2 with ⟨rfl, _⟩ | ⟨g, cap, cur, rfl, _, hg, _⟩
  · cases hu
  · rcases k.2 with ⟨rfl, _⟩ | ⟨g', cap', cur', rfl, _, hg', _⟩
    · cases hv
    · cases hu
      cases hv
      rw [hg] at hg'
      simp at hg'
/-- A mark that is got, a stage that is done, an attribute that is set: in their own rows. -/
theorem So.setGot {w : World} {base g cap n : Nat} {va vd : Value} {s : Sa} (h : So w base va vd (.slice (some ⟨g, 0, none⟩) n cap) s) (hn : n = s.got.length) (i : Nat) (b : Bool) : So (w.setCell ⟨g, i, none⟩ (.bool b)) base va vd (.slice (some ⟨g, 0, none⟩) n cap) { s with got := s.got.set i b } ∧ Kept (· < base) w (w.setCell ⟨g, i, none⟩ (.bool b)) := by
  subst hn
  have hgb := (h.got.lt g rfl).1
  have k : Kept (· ≠ g) w (w.setCell ⟨g, i, none⟩ (.bool b)) := (Kept.refl _ _).setCell (by simp) _
  refine ⟨⟨own_keep h.vals k (fun i e q => types_differ h.vals h.got i e (by rw [q]; rfl)), own_keep h.done k (fun i e q => h.apart i e (by rw [q]; rfl)), ?_, h.apart⟩, (Kept.refl _ _).setCell (by simp; omega) _⟩
  have := (h.got.stored i (.bool b)).1
  rw [bv_set] at this
  simpa using this
theorem So.setDone {w : World} {base g cap n : Nat} {va vg : Value} {s : Sa} (h : So w base va (.slice (some ⟨g, 0, none⟩) n cap) vg s) (hn : n = s.done.length) (i : Nat) (b : Bool) : So (w.setCell ⟨g, i, none⟩ (.bool b)) base va (.slice (some ⟨g, 0, none⟩) n cap) vg { s with done := s.done.set i b } ∧ Kept (· < base) w (w.setCell ⟨g, i, none⟩ (.bool b)) := by
  subst hn
  have hgb := (h.done.lt g rfl).1
  have k : Kept (· ≠ g) w (w.setCell ⟨g, i, none⟩ (.bool b)) := (Kept.refl _ _).setCell (by simp) _
  refine ⟨⟨own_keep h.vals k (fun i e q => types_differ h.vals h.done i e (by rw [q]; rfl)), ?_, own_keep h.got k (fun i e q => h.apart g rfl (by rw [← q]; exact e)), h.apart⟩, (Kept.refl _ _).setCell (by simp; omega) _⟩
  have := (h.done.stored i (.bool b)).1
  rw [bv_set] at this
  simpa using this
theorem So.setVal {w : World} {base g cap n : Nat} {vd vg : Value} {s : Sa} (h : So w base (.slice (some ⟨g, 0, none⟩) n cap) vd vg s) (hn : n = s.vals.length) (i : Nat) (b : Int) : So (w.setCell ⟨g, i, none⟩ (.int .i64 b)) base (.slice (some ⟨g, 0, none⟩) n cap) vd vg { s with vals := s.vals.set i b } ∧ Kept (· < base) w (w.setCell ⟨g, i, none⟩ (.int .i64 b)) := by
  subst hn
  have hgb := (h.vals.lt g rfl).1
  have k : Kept (· ≠ g) w (w.setCell ⟨g, i, none⟩ (.int .i64 b)) := (Kept.refl _ _).setCell (by simp) _
  refine ⟨⟨?_, own_keep h.done k (fun i e q => types_differ h.vals h.done g rfl (by rw [← q]; exact e)), own_keep h.got k (fun i e q => types_differ h.vals h.got g rfl (by rw [← q]; exact e)), h.apart⟩, (Kept.refl _ _).setCell (by simp; omega) _⟩
  have := (h.vals.stored i (.int .i64 b)).1
  rw [iv_set] at this
  simpa using this

end Go.Proofs.YtnddpalngjmhnabDoor

namespace Go.Proofs.YtnddpalngjmhnabDoor
open Go.RowKit

set_option maxHeartbeats 400000 in
theorem ctruth_any {w : World} (b : Bool) :
    Calls Tryd.prog 44 #[.bool b] w fun e w' => e = .returned (.int .i64 (tr b)) ∧ w' = w := by
  cases b
  all_goals
    go_enter Tryd.func44, Tryd.ntmps44
    go_wp2
    go_ret
    exact ⟨rfl, rfl⟩

theorem sees_step {l : List Bool} {i : Nat} (pre : List Int) (h : i < l.length) : iv (pre ++ (l.take (i + 1)).map tr) = iv (pre ++ (l.take i).map tr) ++ [.int .i64 (tr l[i])] := by
  rw [List.take_succ_eq_append_getElem h, List.map_append, ← List.append_assoc, iv_append]
  rfl
theorem num_one (n : Int) : ∀ u ∈ [Value.int .i64 n], u.oneCell' = true := by
  intro u hu
  obtain rfl := List.mem_singleton.1 hu
  rfl

set_option maxRecDepth 100000 in
set_option maxHeartbeats 8000000 in
theorem seen_any {w : World} {v : Value} {s : Sa} (h : StV w v s) (f : Few s) :
    Calls Tryd.prog 37 #[v] w fun e w' => ∃ v', e = .returned v' ∧ Cv w' v' (iv (sees s)) ∧ Kept (fun _ => True) w w' := by
  obtain ⟨va, vd, vg, rfl, h1, h2, h3⟩ := h
  obtain ⟨l1, l2, l3⟩ := f
  obtain ⟨vo, vc, rfl, -, -⟩ := h1.ints
  obtain ⟨eo, ec, rfl, -, -⟩ := h2.bools
  obtain ⟨go, gc, rfl, -, -⟩ := h3.bools
  have k0 : Kept (fun _ => True) w (w.alloc (.cells #[.string ⟨s.type.toArray⟩, .slice vo s.vals.length vc, .slice eo s.done.length ec, .slice go s.got.length gc] 32)) := (Kept.refl _ _).alloc _
  have hX := heap_alloc_new w (.cells #[.string ⟨s.type.toArray⟩, .slice vo s.vals.length vc, .slice eo s.done.length ec, .slice go s.got.length gc] 32)
  replace h1 := h1.all k0
  replace h2 := h2.all k0
  replace h3 := h3.all k0
  obtain ⟨⟨z0, z1, z2, z3⟩, _⟩ := four_cell hX
  go_enter Tryd.func37, Tryd.ntmps37
  go_upto_region 2 with fail
  generalize w.alloc (.cells #[.string ⟨s.type.toArray⟩, .slice vo s.vals.length vc, .slice eo s.done.length ec, .slice go s.got.length gc] 32) = w1 at *
  obtain ⟨B, hB⟩ : ∃ B, B = w.heap.size := ⟨_, rfl⟩
  rw [← hB] at hX z0 z1 z2 z3 ⊢
  have K0 : Hid (Kept (fun _ => True) w w1) := k0
  have HV : Hid (Cv w1 (.slice vo s.vals.length vc) (iv s.vals)) := h1
  have HE : Hid (Cv w1 (.slice eo s.done.length ec) (bv s.done)) := h2
  have HG : Hid (Cv w1 (.slice go s.got.length gc) (bv s.got)) := h3
  have HX : Hid (w1.heap[B]? = some (.cells #[.string ⟨s.type.toArray⟩, .slice vo s.vals.length vc, .slice eo s.done.length ec, .slice go s.got.length gc] 32 (0, 0))) := hX
  have HL : Hid (s.vals.length ≤ 1000000) := l1
  clear hB h1 h2 h3 hX k0
  go_wp2_with (at_builtin; refine wpList_append_nums rfl (.tmp 8) (.tmp 10) rfl w1.heap.size (.slice none 0 0) 0 [] rfl (World.ownsRow_nil _ _ _ _) (Nat.le_refl _) (.slice vo s.vals.length vc) rfl (iv s.vals) HV.out (iv_one _) (by rw [iv_len]; have := HL.out; omega) s.vals.length (by rw [iv_len]; omega) ?_; intro ao' cap' w2 hW hG hO; have HW : Hid (w2.ownsRow w1.heap.size 3 1 (.slice ao' s.vals.length cap') s.vals.length (iv s.vals)) := hW; have hk2 : Kept (fun _ => True) w1 w2 := (Kept.refl _ _).grown hG (fun k _ e => by cases e); have hX2 := (hk2.block B (lt_of_block HX.out) trivial).trans HX.out; obtain ⟨⟨y0, y1, y2, y3⟩, _⟩ := four_cell hX2; have HK2 : Hid (Kept (fun _ => True) w1 w2) := hk2; clear hW hG hO hk2 hX2)
  clear z0 z1 z2 z3 y0 y1 y2 y3
  go_loopw [3, 5, 15] (fun t3 _ ti wr => ∃ i : Nat, i ≤ s.done.length ∧ ti = .int .i64 i ∧ wr.ownsRow w1.heap.size 3 1 t3 (s.vals.length + i) (iv (s.vals ++ (s.done.take i).map tr)) ∧ Kept (fun _ => True) w1 wr) (fun _ _ ti _ => s.done.length - (intOf ti).toNat)
  case atStart => exact ⟨0, Nat.zero_le _, rfl, by simpa using HW.out, HK2.out⟩
  case round =>
  obtain ⟨i, hi, rfl, hT, hk⟩ := hrel
  obtain ⟨ao, cap, rfl⟩ := own_shape_any hT
  obtain ⟨L, hL⟩ : ∃ L, L = s.vals.length + i := ⟨_, rfl⟩
  rw [← hL] at hT ⊢
  have HT : Hid (wr.ownsRow w1.heap.size 3 1 (.slice ao L cap) L (iv (s.vals ++ (s.done.take i).map tr))) := hT
  have HKr : Hid (Kept (fun _ => True) w1 wr) := hk
  have HLe : Hid (L = s.vals.length + i) := hL
  clear hT hk hL
  by_cases hlt : i < s.done.length
  · obtain ⟨b, off, rfl, hb, hc⟩ := (HE.out.all HKr.out).boolAt i hlt
    have HST : Hid (iv (s.vals ++ (s.done.take (i + 1)).map tr) = iv (s.vals ++ (s.done.take i).map tr) ++ [.int .i64 (tr s.done[i])]) := sees_step _ hlt
    have i1 : (i : Int) < (s.done.length : Int) := by omega
    have i0 : (0 : Int) ≤ (i : Int) := by omega
    clear hb
    generalize s.done[i] = d at *
    have ct := fun W => ctruth_any (w := W) d
    generalize tr d = n at *
    have HNB : Hid _ := heap_alloc_new wr (.cells #[.int .i64 n] 3)
    go_wp2_with fail
    refine Calls.mono (ct _) ?_
    rintro e w3 ⟨rfl, rfl⟩
    clear ct
    go_wp2_with (at_builtin; refine wpList_append_nums rfl (.tmp 19) (.tmp 22) rfl w1.heap.size (.slice ao L cap) L (iv (s.vals ++ (s.done.take i).map tr)) rfl (own_keep HT.out ((Kept.refl (fun _ => True) _).alloc _) (fun _ _ => trivial)) (by have h1 := HKr.out.size; simp; omega) (.slice (some ⟨w3.heap.size, 0, none⟩) 1 1) rfl [.int .i64 n] (Cv.one_nums HNB.out) (num_one n) (by have := HLe.out; simp; omega) (L + 1) (by simp) ?_; intro ao' cap' w' hW hG hO; have HW4 : Hid (w'.ownsRow w1.heap.size 3 1 (.slice ao' (L + 1) cap') (L + 1) (iv (s.vals ++ (s.done.take i).map tr) ++ [.int .i64 n])) := hW; have HGr : Hid (Kept (fun _ => True) w1 w') := (HKr.out.alloc _).grown hG (fun k hk e => by have := (World.ownsRow.lt HT.out k e).1; omega); clear hW hG hO)
    go_roundw
    case rel =>
      refine ⟨i + 1, by omega, by go_num, ?_, HGr.out⟩
      rw [HST.out, show s.vals.length + (i + 1) = L + 1 by have := HLe.out; omega]
      exact HW4.out
    case measure => simp [intOf]; omega
  · have i1 : ¬ (i : Int) < (s.done.length : Int) := by omega
    have hie : i = s.done.length := by omega
    have hX2 := (HKr.out.block B (lt_of_block HX.out) trivial).trans HX.out
    obtain ⟨⟨y0, y1, y2, y3⟩, _⟩ := four_cell hX2
    have HT2 : Hid (wr.ownsRow w1.heap.size 3 1 (.slice ao L cap) L (iv (s.vals ++ s.done.map tr))) := by
      have := HT.out
      rw [hie, List.take_length] at this
      exact this
    clear HT hX2 HW HK2
    go_wp2_with fail
    clear y0 y1 y2 y3
    go_loopw [3, 7, 28] (fun t3 _ ti wq => ∃ j : Nat, j ≤ s.got.length ∧ ti = .int .i64 j ∧ wq.ownsRow w1.heap.size 3 1 t3 (L + j) (iv (s.vals ++ s.done.map tr ++ (s.got.take j).map tr)) ∧ Kept (fun _ => True) w1 wq) (fun _ _ ti _ => s.got.length - (intOf ti).toNat)
    case atStart => exact ⟨0, Nat.zero_le _, rfl, by simpa using HT2.out, HKr.out⟩
    case round =>
    obtain ⟨j, hj, rfl, hT, hk⟩ := hrel
    obtain ⟨ao2, cap2, rfl⟩ := own_shape_any hT
    obtain ⟨M, hM⟩ : ∃ M, M = L + j := ⟨_, rfl⟩
    rw [← hM] at hT ⊢
    have HT3 : Hid (wr.ownsRow w1.heap.size 3 1 (.slice ao2 M cap2) M (iv (s.vals ++ s.done.map tr ++ (s.got.take j).map tr))) := hT
    have HKq : Hid (Kept (fun _ => True) w1 wr) := hk
    have HMe : Hid (M = L + j) := hM
    clear hT hk hM
    by_cases hlt2 : j < s.got.length
    · obtain ⟨b, off, rfl, hb, hc⟩ := (HG.out.all HKq.out).boolAt j hlt2
      have HST : Hid (iv (s.vals ++ s.done.map tr ++ (s.got.take (j + 1)).map tr) = iv (s.vals ++ s.done.map tr ++ (s.got.take j).map tr) ++ [.int .i64 (tr s.got[j])]) := sees_step _ hlt2
      have j1 : (j : Int) < (s.got.length : Int) := by omega
      have j0 : (0 : Int) ≤ (j : Int) := by omega
      clear hb
      generalize s.got[j] = d at *
      have ct := fun W => ctruth_any (w := W) d
      generalize tr d = n at *
      have HNB : Hid _ := heap_alloc_new wr (.cells #[.int .i64 n] 3)
      go_wp2_with fail
      refine Calls.mono (ct _) ?_
      rintro e w3 ⟨rfl, rfl⟩
      clear ct
      go_wp2_with (at_builtin; refine wpList_append_nums rfl (.tmp 32) (.tmp 35) rfl w1.heap.size (.slice ao2 M cap2) M (iv (s.vals ++ s.done.map tr ++ (s.got.take j).map tr)) rfl (own_keep HT3.out ((Kept.refl (fun _ => True) _).alloc _) (fun _ _ => trivial)) (by have h1 := HKq.out.size; simp; omega) (.slice (some ⟨w3.heap.size, 0, none⟩) 1 1) rfl [.int .i64 n] (Cv.one_nums HNB.out) (num_one n) (by have := HLe.out; have := HMe.out; simp; omega) (M + 1) (by simp) ?_; intro ao' cap' w' hW hG hO; have HW4 : Hid (w'.ownsRow w1.heap.size 3 1 (.slice ao' (M + 1) cap') (M + 1) (iv (s.vals ++ s.done.map tr ++ (s.got.take j).map tr) ++ [.int .i64 n])) := hW; have HGr : Hid (Kept (fun _ => True) w1 w') := (HKq.out.alloc _).grown hG (fun k hk e => by have := (World.ownsRow.lt HT3.out k e).1; omega); clear hW hG hO)
      go_roundw
      case rel =>
        refine ⟨j + 1, by omega, by go_num, ?_, HGr.out⟩
        rw [HST.out, show L + (j + 1) = M + 1 by have := HMe.out; omega]
        exact HW4.out
      case measure => simp [intOf]; omega
    · have j1 : ¬ (j : Int) < (s.got.length : Int) := by omega
      have hje : j = s.got.length := by omega
      have HT4 : Hid (Cv wr (.slice ao2 M cap2) (iv (sees s))) := by
        have := HT3.out
        rw [hje, List.take_length] at this
        have hs : s.vals ++ s.done.map tr ++ s.got.map tr = sees s := by simp [sees]
        rw [hs] at this
        exact own_cv this (by have := HLe.out; have := HMe.out; omega)
      go_wp2_with fail
      go_ret
      exact ⟨_, rfl, HT4.out, K0.out.trans HKq.out⟩

set_option maxRecDepth 100000 in
set_option maxHeartbeats 4000000 in
theorem holds_any {w : World} {tv sv : Value} {t : Ty} {s : Sa} (ht : TyV w tv t) (hs : StV w sv s) (f : Few s) (hm : (nms t).length ≤ 1000000) {g : List UInt8} (hg : g.length ≤ 281474976710656) :
    Calls Tryd.prog 25 #[tv, sv, .string ⟨g.toArray⟩] w fun e w' => e = .returned (.bool (hld t s g)) ∧ Kept (fun _ => True) w w' := by
  have HT : Hid (TyV w tv t) := ht
  have HS : Hid (StV w sv s) := hs
  obtain ⟨tx0, tn, tc, so, sn, sc, mo, mn, mc, rfl⟩ := ht.parts
  obtain ⟨va, vd, vg, rfl, h1, h2, h3⟩ := hs
  obtain ⟨vo, vc, rfl, -, -⟩ := h1.ints
  obtain ⟨eo, ec, rfl, -, -⟩ := h2.bools
  obtain ⟨go, gc, rfl, -, -⟩ := h3.bools
  have hk : Kept (fun _ => True) w ((w.alloc (.cells #[.string ⟨t.name.toArray⟩, .slice tx0 tn tc, .slice so sn sc, .slice mo mn mc] 26)).alloc (.cells #[.string ⟨s.type.toArray⟩, .slice vo s.vals.length vc, .slice eo s.done.length ec, .slice go s.got.length gc] 32)) := ((Kept.refl _ _).alloc _).alloc _
  obtain ⟨x1, x2⟩ := alloc_two w (.cells #[.string ⟨t.name.toArray⟩, .slice tx0 tn tc, .slice so sn sc, .slice mo mn mc] 26) (.cells #[.string ⟨s.type.toArray⟩, .slice vo s.vals.length vc, .slice eo s.done.length ec, .slice go s.got.length gc] 32)
  have HF : Hid (Few s) := f
  have HM : Hid ((nms t).length ≤ 1000000) := hm
  have HGl : Hid (g.length ≤ 281474976710656) := hg
  obtain ⟨R, hR⟩ : ∃ R, R = (evl (nms t) (sees s) g).1 := ⟨_, rfl⟩
  have HR : Hid (hld t s g = (R != 0)) := by show _ = _; rw [hR]; rfl
  have HR2 : Hid (R = (evl (nms t) (sees s) g).1) := hR
  rw [HR.out]
  clear h1 h2 h3 f hm hg hR
  go_enter Tryd.func25, Tryd.ntmps25
  go_wp2_with fail
  generalize (w.alloc (.cells #[.string ⟨t.name.toArray⟩, .slice tx0 tn tc, .slice so sn sc, .slice mo mn mc] 26)).alloc (.cells #[.string ⟨s.type.toArray⟩, .slice vo s.vals.length vc, .slice eo s.done.length ec, .slice go s.got.length gc] 32) = wb at *
  generalize w.heap.size = B at *
  obtain ⟨⟨y0, y1, y2, y3⟩, _⟩ := four_cell x1
  obtain ⟨⟨z0, z1, z2, z3⟩, _⟩ := four_cell x2
  have HK : Hid (Kept (fun _ => True) w wb) := hk
  have HT1 : Hid (TyV wb (.agg #[.string ⟨t.name.toArray⟩, .slice tx0 tn tc, .slice so sn sc, .slice mo mn mc]) t) := HT.out.all hk
  have HS1 : Hid (StV wb (.agg #[.string ⟨s.type.toArray⟩, .slice vo s.vals.length vc, .slice eo s.done.length ec, .slice go s.got.length gc]) s) := HS.out.all hk
  have X0 := fun W (q : Kept (fun _ => True) wb W) => (kept_cell q (lt_of_block x1) trivial).trans y0
  have X1 := fun W (q : Kept (fun _ => True) wb W) => (kept_cell q (lt_of_block x1) trivial).trans y1
  have X2 := fun W (q : Kept (fun _ => True) wb W) => (kept_cell q (lt_of_block x1) trivial).trans y2
  have X3 := fun W (q : Kept (fun _ => True) wb W) => (kept_cell q (lt_of_block x1) trivial).trans y3
  have U0 := fun W (q : Kept (fun _ => True) wb W) => (kept_cell q (lt_of_block x2) trivial).trans z0
  have U1 := fun W (q : Kept (fun _ => True) wb W) => (kept_cell q (lt_of_block x2) trivial).trans z1
  have U2 := fun W (q : Kept (fun _ => True) wb W) => (kept_cell q (lt_of_block x2) trivial).trans z2
  have U3 := fun W (q : Kept (fun _ => True) wb W) => (kept_cell q (lt_of_block x2) trivial).trans z3
  have kd : Kept (fun _ => True) wb wb.drew := (Kept.refl _ _).drew
  clear hk HT HS x1 x2 y0 y1 y2 y3 z0 z1 z2 z3
  go_region_held3 (fun W => Kept (fun _ => True) wb W) (assumption) (first
    | (go_at_call 36; refine Calls.mono (names_any (HT1.out.all (by assumption)) (by have := HM.out; omega)) ?_; rintro e v5 ⟨nv, rfl, hn, m5⟩; have HN1 : Hid (Ns v5 nv (nms t)) := hn.ns (by have := HM.out; omega); obtain ⟨na, nc, rfl, _⟩ := hn.shape; have p5 : Kept (fun _ => True) wb v5 := Kept.trans (by assumption) m5; clear m5 hn)
    | (go_at_call 37; refine Calls.mono (seen_any (HS1.out.all (by assumption)) HF.out) ?_; rintro e v6 ⟨sv2, rfl, hn, m6⟩; have HN2 : Hid (Vi v6 sv2 (sees s)) := hn.vi; have HN3 : Hid (Ns v6 _ (nms t)) := HN1.out.all m6; obtain ⟨nb, nd, rfl, _⟩ := hn.ints; have p6 : Kept (fun _ => True) wb v6 := Kept.trans (by assumption) m6; clear m6 hn)
    | (go_at_call 35; have c := eval_any HN3.out HN2.out HGl.out; rw [← HR2.out] at c; refine Calls.mono c ?_; clear c; rintro e v7 ⟨rfl, m7⟩; have p7 : Kept (fun _ => True) wb v7 := Kept.trans (by assumption) m7; clear m7))
  all_goals
    go_wp2_with fail
    go_ret
    exact ⟨rfl, HK.out.trans (by assumption)⟩

end Go.Proofs.YtnddpalngjmhnabDoor

namespace Go.Proofs.YtnddpalngjmhnabDoor
open Go.RowKit

/-- A truth that tells whether P. -/
def Tells (e : Ending) (P : Prop) : Prop := ∃ q : Bool, e = .returned (.bool q) ∧ (q = true ↔ P)
theorem Tells.mk {e : Ending} {P : Prop} {q : Bool} (h : e = .returned (.bool q)) (hq : q = true ↔ P) : Tells e P := ⟨q, h, hq⟩
theorem Tells.yes {e : Ending} {P : Prop} (h : e = .returned (.bool true)) (hp : P) : Tells e P := ⟨true, h, fun _ => hp, fun _ => rfl⟩
theorem most_three (a b c : Nat) : ∃ M : Int, (∀ W, (Builtin.max_ #[3, 3, 3] 3 #[.int .i64 (a : Nat), .int .i64 (b : Nat), .int .i64 (c : Nat)]).run Tryd.prog W = .ok (.int .i64 M) W) ∧ (M ≤ 6 ↔ (a ≤ 6 ∧ b ≤ 6 ∧ c ≤ 6)) := by
  refine ⟨_, fun W => run_max_int3 _ _ _ _ _ _ _ _ _, ?_⟩
  repeat' split
  all_goals omega

set_option maxRecDepth 100000 in
set_option maxHeartbeats 4000000 in
theorem small_any {w : World} {v : Value} {t : Ty} (h : TyV w v t) (g : Good t) :
    Calls Tryd.prog 15 #[v] w fun e w' => e = .returned (.bool true) ∧ Kept (fun _ => True) w w' := by
  obtain ⟨va, vs, vm, rfl, ha, hs, hk⟩ := h
  obtain ⟨ao, ac, rfl, la⟩ := ha.form
  obtain ⟨so, sc, rfl, ls⟩ := hs.form
  obtain ⟨mo, mc, rfl, lm⟩ := hk.form
  have hX := heap_alloc_new w (.cells #[.string ⟨t.name.toArray⟩, .slice ao t.attrs.length ac, .slice so t.stages.length sc, .slice mo t.marks.length mc] 26)
  have K0 : Hid (Kept (fun _ => True) w (w.alloc (.cells #[.string ⟨t.name.toArray⟩, .slice ao t.attrs.length ac, .slice so t.stages.length sc, .slice mo t.marks.length mc] 26))) := (Kept.refl _ _).alloc _
  obtain ⟨⟨z0, z1, z2, z3⟩, _⟩ := four_cell hX
  obtain ⟨M, hM, hM6⟩ := most_three t.attrs.length t.stages.length t.marks.length
  have h6 : M ≤ 6 := hM6.2 ⟨g.na, g.ns, g.nm⟩
  clear ha hs hk g hM6 hX
  go_enter Tryd.func15, Tryd.ntmps15
  go_wp2_with fail
  go_ret
  exact ⟨rfl, K0.out⟩

set_option maxRecDepth 100000 in
set_option maxHeartbeats 4000000 in
theorem within_any {w : World} (x : At) (n : Int) :
    Calls Tryd.prog 39 #[.agg #[.string ⟨x.name.toArray⟩, .int .i64 x.start, .int .i64 x.lo, .int .i64 x.hi], .int .i64 n] w fun e w' => e = .returned (.bool (wthn x n)) ∧ Kept (fun _ => True) w w' := by
  have hX := heap_alloc_new w (.cells #[.string ⟨x.name.toArray⟩, .int .i64 x.start, .int .i64 x.lo, .int .i64 x.hi] 48)
  obtain ⟨⟨z0, z1, z2, z3⟩, _⟩ := four_cell hX
  have K1 : Hid _ := (Kept.refl (fun _ => True) w).alloc (.cells #[.string ⟨x.name.toArray⟩, .int .i64 x.start, .int .i64 x.lo, .int .i64 x.hi] 48)
  clear hX
  unfold wthn
  generalize x.start = s at *
  generalize x.lo = l at *
  generalize x.hi = h at *
  by_cases h1 : l ≤ n
  · by_cases h2 : n ≤ h
    all_goals
      simp only [h1, h2, decide_true, decide_false, Bool.and_true, Bool.and_false]
      go_enter Tryd.func39, Tryd.ntmps39
      go_wp2_with fail
      go_ret
      exact ⟨rfl, K1.out⟩
  · simp only [h1, decide_false, Bool.false_and]
    go_enter Tryd.func39, Tryd.ntmps39
    go_wp2_with fail
    go_ret
    exact ⟨rfl, K1.out⟩

theorem nat_yes {a b : Nat} (h : a = b) : ((a : Int) == (b : Int)) = true := by rw [h]; simp
theorem nat_no {a b : Nat} (h : ¬ a = b) : ((a : Int) == (b : Int)) = false := by
  simp only [beq_eq_false_iff_ne, ne_eq]
  omega

set_option maxRecDepth 100000 in
set_option maxHeartbeats 4000000 in
theorem sized_any {w : World} {tv sv : Value} {t : Ty} {s : Sa} (ht : TyV w tv t) (hs : StV w sv s) :
    Calls Tryd.prog 38 #[tv, sv] w fun e w' => Tells e (Sized t s) ∧ Kept (fun _ => True) w w' := by
  obtain ⟨ta, ts, tm, rfl, ha, hss, hk⟩ := ht
  obtain ⟨ao, ac, rfl, la⟩ := ha.form
  obtain ⟨so, sc, rfl, ls⟩ := hss.form
  obtain ⟨mo, mc, rfl, lm⟩ := hk.form
  obtain ⟨va, vd, vg, rfl, h1, h2, h3⟩ := hs
  obtain ⟨vo, vc, rfl, -, -⟩ := h1.ints
  obtain ⟨eo, ec, rfl, -, -⟩ := h2.bools
  obtain ⟨go, gc, rfl, -, -⟩ := h3.bools
  obtain ⟨x1, x2⟩ := alloc_two w (.cells #[.string ⟨t.name.toArray⟩, .slice ao t.attrs.length ac, .slice so t.stages.length sc, .slice mo t.marks.length mc] 26) (.cells #[.string ⟨s.type.toArray⟩, .slice vo s.vals.length vc, .slice eo s.done.length ec, .slice go s.got.length gc] 32)
  have K0 : Hid (Kept (fun _ => True) w ((w.alloc (.cells #[.string ⟨t.name.toArray⟩, .slice ao t.attrs.length ac, .slice so t.stages.length sc, .slice mo t.marks.length mc] 26)).alloc (.cells #[.string ⟨s.type.toArray⟩, .slice vo s.vals.length vc, .slice eo s.done.length ec, .slice go s.got.length gc] 32))) := ((Kept.refl _ _).alloc _).alloc _
  obtain ⟨⟨y0, y1, y2, y3⟩, _⟩ := four_cell x1
  obtain ⟨⟨z0, z1, z2, z3⟩, _⟩ := four_cell x2
  obtain ⟨P, hP⟩ : ∃ P : Prop, P ↔ Sized t s := ⟨_, Iff.rfl⟩
  have HP : Hid (P ↔ (s.vals.length = t.attrs.length ∧ s.done.length = t.stages.length ∧ s.got.length = t.marks.length)) := hP.trans ⟨fun h => ⟨h.1, h.2, h.3⟩, fun h => ⟨h.1, h.2.1, h.2.2⟩⟩
  have HP2 : Hid (Sized t s ↔ P) := hP.symm
  simp only [HP2.out]
  clear ha hss hk h1 h2 h3 x1 x2 hP
  generalize s.vals.length = a1 at *
  generalize s.done.length = a2 at *
  generalize s.got.length = a3 at *
  generalize t.attrs.length = b1 at *
  generalize t.stages.length = b2 at *
  generalize t.marks.length = b3 at *
  by_cases e1 : a1 = b1
  · have f1 := nat_yes e1
    by_cases e2 : a2 = b2
    · have f2 := nat_yes e2
      by_cases e3 : a3 = b3
      · have f3 := nat_yes e3
        have HQ : Hid P := HP.out.2 ⟨e1, e2, e3⟩
        clear e1 e2 e3
        go_enter Tryd.func38, Tryd.ntmps38
        go_wp2_with fail
        go_ret
        exact ⟨Tells.yes rfl HQ.out, K0.out⟩
      · have f3 := nat_no e3
        have HQ : Hid ((false : Bool) = true ↔ P) := by show _ ↔ _; rw [HP.out]; simp [e3]
        clear e1 e2 e3
        go_enter Tryd.func38, Tryd.ntmps38
        go_wp2_with fail
        go_ret
        exact ⟨Tells.mk rfl HQ.out, K0.out⟩
    · have f2 := nat_no e2
      have HQ : Hid ((false : Bool) = true ↔ P) := by show _ ↔ _; rw [HP.out]; simp [e2]
      clear e1 e2
      go_enter Tryd.func38, Tryd.ntmps38
      go_wp2_with fail
      go_ret
      exact ⟨Tells.mk rfl HQ.out, K0.out⟩
  · have f1 := nat_no e1
    have HQ : Hid ((false : Bool) = true ↔ P) := by show _ ↔ _; rw [HP.out]; simp [e1]
    clear e1
    go_enter Tryd.func38, Tryd.ntmps38
    go_wp2_with fail
    go_ret
    exact ⟨Tells.mk rfl HQ.out, K0.out⟩

theorem within_at {t : Ty} {s : Sa} (h : Sized t s) {i : Nat} (hi : i < t.attrs.length) : ∃ hv : i < s.vals.length, wthn (t.attrs.getD i At.nil) (s.vals.getD i 0) = wthn t.attrs[i] (s.vals[i]'hv) := by
  have hv : i < s.vals.length := by rw [h.vals]; exact hi
  refine ⟨hv, ?_⟩
  simp [List.getD_eq_getElem?_getD, hi, hv]

set_option maxRecDepth 100000 in
set_option maxHeartbeats 4000000 in
theorem fits_any {w : World} {tv sv : Value} {t : Ty} {s : Sa} (ht : TyV w tv t) (hs : StV w sv s) (g : Good t) :
    Calls Tryd.prog 26 #[tv, sv] w fun e w' => Tells e (Fit t s) ∧ Kept (fun _ => True) w w' := by
  have HT : Hid (TyV w tv t) := ht
  have HS : Hid (StV w sv s) := hs
  obtain ⟨ta, ts, tm, rfl, ha, hss, hk⟩ := ht
  obtain ⟨ao, ac, rfl, la⟩ := ha.form
  obtain ⟨so, sc, rfl, ls⟩ := hss.form
  obtain ⟨mo, mc, rfl, lm⟩ := hk.form
  obtain ⟨va, vd, vg, rfl, h1, h2, h3⟩ := hs
  obtain ⟨vo, vc, rfl, -, -⟩ := h1.ints
  obtain ⟨eo, ec, rfl, -, -⟩ := h2.bools
  obtain ⟨go, gc, rfl, -, -⟩ := h3.bools
  obtain ⟨x1, x2⟩ := alloc_two w (.cells #[.string ⟨t.name.toArray⟩, .slice ao t.attrs.length ac, .slice so t.stages.length sc, .slice mo t.marks.length mc] 26) (.cells #[.string ⟨s.type.toArray⟩, .slice vo s.vals.length vc, .slice eo s.done.length ec, .slice go s.got.length gc] 32)
  have hk0 : Kept (fun _ => True) w ((w.alloc (.cells #[.string ⟨t.name.toArray⟩, .slice ao t.attrs.length ac, .slice so t.stages.length sc, .slice mo t.marks.length mc] 26)).alloc (.cells #[.string ⟨s.type.toArray⟩, .slice vo s.vals.length vc, .slice eo s.done.length ec, .slice go s.got.length gc] 32)) := ((Kept.refl _ _).alloc _).alloc _
  have HA : Hid (Av _ (.slice ao t.attrs.length ac) t.attrs) := ha.all hk0
  have HV : Hid (Cv _ (.slice vo s.vals.length vc) (iv s.vals)) := h1.all hk0
  have cz := sized_any (HT.out.all hk0) (HS.out.all hk0)
  have hna := g.na
  have K0 : Hid _ := hk0
  obtain ⟨⟨y0, y1, y2, y3⟩, _⟩ := four_cell x1
  obtain ⟨⟨z0, z1, z2, z3⟩, _⟩ := four_cell x2
  have X1 : Hid _ := x1
  have X2 : Hid _ := x2
  clear ha hss hk h1 h2 h3 hk0 x1 x2 HT HS g
  go_enter Tryd.func26, Tryd.ntmps26
  by_cases hn : s.type = t.name
  · have hn' : (s.type == t.name) = true := by simpa using hn
    have HN : Hid _ := hn
    clear hn
    go_wp2_with fail
    refine Calls.mono cz ?_
    rintro e w2 ⟨⟨q, rfl, hq⟩, k2⟩
    clear cz
    cases q with
    | false =>
      have HQ : Hid ((false : Bool) = true ↔ Fit t s) := ⟨fun h => (by cases h), fun h => hq.2 h.sz⟩
      clear hq
      go_wp2_with fail
      go_ret
      exact ⟨Tells.mk rfl HQ.out, K0.out.trans k2⟩
    | true =>
      have HZ : Hid (Sized t s) := hq.1 rfl
      have HB1 : Hid _ := (k2.block _ (lt_of_block X1.out) trivial).trans X1.out
      have HB2 : Hid _ := (k2.block _ (lt_of_block X2.out) trivial).trans X2.out
      replace HA := HA.out.all k2
      replace HV := HV.out.all k2
      have K2 : Hid (Kept (fun _ => True) w w2) := K0.out.trans k2
      clear hq y0 y1 y2 y3 z0 z1 z2 z3 X1 X2 K0 k2
      have HA2 : Hid (Av w2 (.slice ao t.attrs.length ac) t.attrs) := HA
      have HV2 : Hid (Cv w2 (.slice vo s.vals.length vc) (iv s.vals)) := HV
      clear HA HV
      generalize w.heap.size = B at *
      obtain ⟨⟨y0, y1, y2, y3⟩, _⟩ := four_cell HB1.out
      go_wp2_with fail
      clear y0 y1 y2 y3
      go_loopw [5, 6, 21] (fun _ _ ti wr => ∃ i : Nat, i ≤ t.attrs.length ∧ ti = .int .i64 i ∧ (∀ k, k < i → wthn (t.attrs.getD k At.nil) (s.vals.getD k 0) = true) ∧ Kept (fun _ => True) w2 wr) (fun _ _ ti _ => t.attrs.length - (intOf ti).toNat)
      case atStart => exact ⟨0, Nat.zero_le _, rfl, fun k hk => (by omega), Kept.refl _ _⟩
      case round =>
      obtain ⟨i, hi, rfl, hall, hk⟩ := hrel
      have HAll : Hid (∀ k, k < i → wthn (t.attrs.getD k At.nil) (s.vals.getD k 0) = true) := hall
      have HKr : Hid (Kept (fun _ => True) w2 wr) := hk
      clear hall hk
      by_cases hlt : i < t.attrs.length
      · obtain ⟨hv, hwe⟩ := within_at HZ.out hlt
        obtain ⟨b, off, rfl, hb, q0, q1, q2, q3⟩ := (HA2.out.all HKr.out).at i hlt
        obtain ⟨b2, off2, rfl, hb2, c0⟩ := (HV2.out.all HKr.out).intAt i hv
        have HWE : Hid _ := hwe
        have i1 : (i : Int) < (t.attrs.length : Int) := by omega
        have i0 : (0 : Int) ≤ (i : Int) := by omega
        have i2 : (i : Int) < (s.vals.length : Int) := by omega
        clear hb hwe
        generalize t.attrs[i] = x at *
        generalize s.vals[i] = n at *
        have ka : Kept (fun _ => True) wr (wr.alloc (.cells #[.string ⟨x.name.toArray⟩, .int .i64 x.start, .int .i64 x.lo, .int .i64 x.hi] 48)) := (Kept.refl _ _).alloc _
        have hG := heap_alloc_new wr (.cells #[.string ⟨x.name.toArray⟩, .int .i64 x.start, .int .i64 x.lo, .int .i64 x.hi] 48)
        have c1 := (kept_cell ka hb2 trivial).trans c0
        have hb3 : b2 < (wr.alloc (.cells #[.string ⟨x.name.toArray⟩, .int .i64 x.start, .int .i64 x.lo, .int .i64 x.hi] 48)).heap.size := Nat.lt_of_lt_of_le hb2 ka.size
        have hB2 := ((HKr.out.trans ka).block _ (lt_of_block HB2.out) trivial).trans HB2.out
        have HKa : Hid (Kept (fun _ => True) w2 _) := HKr.out.trans ka
        clear ka c0 hb2
        go_upto_region 6 with fail
        generalize wr.alloc (.cells #[.string ⟨x.name.toArray⟩, .int .i64 x.start, .int .i64 x.lo, .int .i64 x.hi] 48) = w3 at *
        generalize wr.heap.size = G at *
        obtain ⟨⟨g0, g1, g2, g3⟩, _⟩ := four_cell hG
        obtain ⟨⟨z0, z1, z2, z3⟩, _⟩ := four_cell hB2
        have G0 := fun W (q : Kept (fun _ => True) w3 W) => (kept_cell q (lt_of_block hG) trivial).trans g0
        have G1 := fun W (q : Kept (fun _ => True) w3 W) => (kept_cell q (lt_of_block hG) trivial).trans g1
        have G2 := fun W (q : Kept (fun _ => True) w3 W) => (kept_cell q (lt_of_block hG) trivial).trans g2
        have G3 := fun W (q : Kept (fun _ => True) w3 W) => (kept_cell q (lt_of_block hG) trivial).trans g3
        have Z1 := fun W (q : Kept (fun _ => True) w3 W) => (kept_cell q (lt_of_block hB2) trivial).trans z1
        have C1 := fun W (q : Kept (fun _ => True) w3 W) => (kept_cell q hb3 trivial).trans c1
        have kd : Kept (fun _ => True) w3 w3.drew := (Kept.refl _ _).drew
        have cw := fun W => within_any (w := W) x n
        generalize wthn x n = wq at *
        clear g0 g1 g2 g3 z0 z1 z2 z3 c1 hG hB2 hb3
        go_region_held3 (fun W => Kept (fun _ => True) w3 W) (assumption) (first
          | (go_at_call 39; refine Calls.mono (cw _) ?_; rintro e v5 ⟨rfl, m5⟩; have p5 : Kept (fun _ => True) w3 v5 := Kept.trans (by assumption) m5; clear m5))
        all_goals
          have HP5 : Hid (Kept (fun _ => True) w2 v5) := HKa.out.trans p5
          clear G0 G1 G2 G3 Z1 C1 kd cw p5
          cases wq with
          | true =>
            go_wp2_with fail
            go_roundw
            case rel =>
              refine ⟨i + 1, by omega, by go_num, fun k hk => ?_, HP5.out⟩
              rcases Nat.lt_or_ge k i with h | h
              · exact HAll.out k h
              · obtain rfl : k = i := by omega
                exact HWE.out
            case measure => simp [intOf]; omega
          | false =>
            have HQ : Hid ((false : Bool) = true ↔ Fit t s) := ⟨fun h => (by cases h), fun h => (h.within i (by omega)).symm.trans HWE.out |>.symm⟩
            go_wp2_with fail
            go_ret
            exact ⟨Tells.mk rfl HQ.out, K2.out.trans HP5.out⟩
      · have i1 : ¬ (i : Int) < (t.attrs.length : Int) := by omega
        have HQ : Hid (Fit t s) := ⟨HN.out, HZ.out, fun k hk => HAll.out k (by omega)⟩
        go_wp2_with fail
        go_ret
        exact ⟨Tells.yes rfl HQ.out, K2.out.trans HKr.out⟩
  · have hn' : (s.type == t.name) = false := by simpa using hn
    have HQ : Hid ((false : Bool) = true ↔ Fit t s) := ⟨fun h => (by cases h), fun h => absurd h.type hn⟩
    clear hn
    go_wp2_with fail
    go_ret
    exact ⟨Tells.mk rfl HQ.out, K0.out⟩

end Go.Proofs.YtnddpalngjmhnabDoor

namespace Go.Proofs.YtnddpalngjmhnabDoor
open Go.RowKit

set_option maxRecDepth 100000 in
set_option maxHeartbeats 4000000 in
theorem sound_any {w : World} {tv sv : Value} {t : Ty} {s : Sa} (ht : TyV w tv t) (hs : StV w sv s) (g : Good t) (f : Fit t s) :
    Calls Tryd.prog 17 #[tv, sv] w fun e w' => e = .returned (.bool true) ∧ Kept (fun _ => True) w w' := by
  have HT : Hid (TyV w tv t) := ht
  have HS : Hid (StV w sv s) := hs
  obtain ⟨tx0, tn, tc, so, sn, sc, mo, mn, mc, rfl⟩ := ht.parts
  obtain ⟨va, vd, vg, rfl, h1, h2, h3⟩ := hs
  obtain ⟨vo, vc, rfl, -, -⟩ := h1.ints
  obtain ⟨eo, ec, rfl, -, -⟩ := h2.bools
  obtain ⟨go, gc, rfl, -, -⟩ := h3.bools
  obtain ⟨x1, x2⟩ := alloc_two w (.cells #[.string ⟨t.name.toArray⟩, .slice tx0 tn tc, .slice so sn sc, .slice mo mn mc] 26) (.cells #[.string ⟨s.type.toArray⟩, .slice vo s.vals.length vc, .slice eo s.done.length ec, .slice go s.got.length gc] 32)
  have hk : Kept (fun _ => True) w ((w.alloc (.cells #[.string ⟨t.name.toArray⟩, .slice tx0 tn tc, .slice so sn sc, .slice mo mn mc] 26)).alloc (.cells #[.string ⟨s.type.toArray⟩, .slice vo s.vals.length vc, .slice eo s.done.length ec, .slice go s.got.length gc] 32)) := ((Kept.refl _ _).alloc _).alloc _
  obtain ⟨⟨y0, y1, y2, y3⟩, _⟩ := four_cell x1
  have c1 := small_any (HT.out.all hk) g
  have HG : Hid (Good t) := g
  have HF : Hid (Fit t s) := f
  have X1 : Hid _ := x1
  have X2 : Hid _ := x2
  have K0 : Hid _ := hk
  clear h1 h2 h3 x1 x2 hk g f
  go_enter Tryd.func17, Tryd.ntmps17
  go_wp2_with fail
  refine Calls.mono c1 ?_
  rintro e w2 ⟨rfl, k2⟩
  have hB1 := (k2.block _ (lt_of_block X1.out) trivial).trans X1.out
  have hB2 := (k2.block _ (lt_of_block X2.out) trivial).trans X2.out
  have K2 : Hid (Kept (fun _ => True) w w2) := K0.out.trans k2
  have c2 := fits_any (HT.out.all K2.out) (HS.out.all K2.out) HG.out
  clear c1 k2 y0 y1 y2 y3 X1 X2 K0
  generalize w.heap.size = B at *
  obtain ⟨⟨y0, y1, y2, y3⟩, _⟩ := four_cell hB1
  obtain ⟨⟨z0, z1, z2, z3⟩, _⟩ := four_cell hB2
  clear hB1 hB2
  go_wp2_with fail
  refine Calls.mono c2 ?_
  rintro e w3 ⟨⟨q, rfl, hq⟩, k3⟩
  obtain rfl : q = true := hq.2 HF.out
  clear c2 hq
  go_wp2_with fail
  go_ret
  exact ⟨rfl, K2.out.trans k3⟩

theorem name_at {xs : List At} {i : Nat} (h : i < xs.length) : ∃ h' : i < (xs.map At.name).length, (xs.map At.name)[i] = (xs[i]).name := ⟨by simpa using h, by simp⟩
theorem rule_at {xs : List Ru} {i : Nat} (h : i < xs.length) : ∃ h' : i < (xs.map Ru.name).length, (xs.map Ru.name)[i] = (xs[i]).name := ⟨by simpa using h, by simp⟩
/-- A place as a number, -1 for none. -/
def spotN : Option Nat → Int
  | none => -1
  | some k => k

set_option maxRecDepth 100000 in
set_option maxHeartbeats 4000000 in
theorem attrOf_any {w : World} {tv : Value} {t : Ty} (ht : TyV w tv t) (g : Good t) (x : List UInt8) :
    Calls Tryd.prog 29 #[tv, .string ⟨x.toArray⟩] w fun e w' => e = .returned (.int .i64 (spotN (spot (t.attrs.map At.name) x))) ∧ Kept (fun _ => True) w w' := by
  obtain ⟨ta, ts, tm, rfl, ha, hss, hk⟩ := ht
  obtain ⟨ao, ac, rfl, la⟩ := ha.form
  obtain ⟨so, sc, rfl, ls⟩ := hss.form
  obtain ⟨mo, mc, rfl, lm⟩ := hk.form
  have hX := heap_alloc_new w (.cells #[.string ⟨t.name.toArray⟩, .slice ao t.attrs.length ac, .slice so t.stages.length sc, .slice mo t.marks.length mc] 26)
  have k0 : Kept (fun _ => True) w (w.alloc (.cells #[.string ⟨t.name.toArray⟩, .slice ao t.attrs.length ac, .slice so t.stages.length sc, .slice mo t.marks.length mc] 26)) := (Kept.refl _ _).alloc _
  obtain ⟨⟨z0, z1, z2, z3⟩, _⟩ := four_cell hX
  have HA : Hid (Av _ (.slice ao t.attrs.length ac) t.attrs) := ha.all k0
  have HN : Hid ((t.attrs.map At.name).Nodup) := g.attrN
  have K0 : Hid _ := k0
  have hna := g.na
  obtain ⟨Z, hZ⟩ : ∃ Z, Z = spotN (spot (t.attrs.map At.name) x) := ⟨_, rfl⟩
  have HZ : Hid (Z = spotN (spot (t.attrs.map At.name) x)) := hZ
  rw [← hZ]
  clear ha hss hk g hX k0 hZ
  go_enter Tryd.func29, Tryd.ntmps29
  go_wp2_with fail
  generalize w.alloc (.cells #[.string ⟨t.name.toArray⟩, .slice ao t.attrs.length ac, .slice so t.stages.length sc, .slice mo t.marks.length mc] 26) = w1 at *
  generalize w.heap.size = B at *
  clear z0 z1 z2 z3
  go_loopw [5, 6, 10] (fun _ _ ti wr => ∃ i : Nat, i ≤ t.attrs.length ∧ ti = .int .i64 i ∧ (∀ k (h : k < t.attrs.length), k < i → (t.attrs[k]).name ≠ x) ∧ Kept (fun _ => True) w1 wr) (fun _ _ ti _ => t.attrs.length - (intOf ti).toNat)
  case atStart => exact ⟨0, Nat.zero_le _, rfl, fun k _ hk => (by omega), Kept.refl _ _⟩
  case round =>
  obtain ⟨i, hi, rfl, hall, hk⟩ := hrel
  have HAll : Hid (∀ k (h : k < t.attrs.length), k < i → (t.attrs[k]).name ≠ x) := hall
  have HKr : Hid (Kept (fun _ => True) w1 wr) := hk
  clear hall hk
  by_cases hlt : i < t.attrs.length
  · obtain ⟨b, off, rfl, hb, q0, q1, q2, q3⟩ := (HA.out.all HKr.out).at i hlt
    have i1 : (i : Int) < (t.attrs.length : Int) := by omega
    have i0 : (0 : Int) ≤ (i : Int) := by omega
    have HKa : Hid (Kept (fun _ => True) w (wr.alloc (.cells #[.string ⟨(t.attrs[i]).name.toArray⟩, .int .i64 (t.attrs[i]).start, .int .i64 (t.attrs[i]).lo, .int .i64 (t.attrs[i]).hi] 48))) := (K0.out.trans HKr.out).alloc _
    have HKb : Hid (Kept (fun _ => True) w1 (wr.alloc (.cells #[.string ⟨(t.attrs[i]).name.toArray⟩, .int .i64 (t.attrs[i]).start, .int .i64 (t.attrs[i]).lo, .int .i64 (t.attrs[i]).hi] 48))) := HKr.out.alloc _
    by_cases hx : (t.attrs[i]).name = x
    · have hx' : ((t.attrs[i]).name == x) = true := by simpa using hx
      have HR : Hid (Z = (i : Int)) := by
        show _ = _
        obtain ⟨h1, h2⟩ := name_at hlt
        rw [HZ.out, spot_at HN.out i h1 (h2.trans hx)]
        rfl
      clear hx
      generalize t.attrs[i] = a at *
      go_wp2_with fail
      go_ret
      exact ⟨by rw [HR.out]; rfl, HKa.out⟩
    · have hx' : ((t.attrs[i]).name == x) = false := by simpa using hx
      have HAll2 : Hid (∀ k (h : k < t.attrs.length), k < i + 1 → (t.attrs[k]).name ≠ x) := fun k h hk => by
        rcases Nat.lt_or_ge k i with h2 | h2
        · exact HAll.out k h h2
        · obtain rfl : k = i := by omega
          exact hx
      clear hx
      generalize t.attrs[i] = a at *
      go_wp2_with fail
      go_roundw
      case rel => exact ⟨i + 1, by omega, by go_num, HAll2.out, HKb.out⟩
      case measure => simp [intOf]; omega
  · have i1 : ¬ (i : Int) < (t.attrs.length : Int) := by omega
    have HR : Hid (Z = -1) := by
      show _ = _
      rw [HZ.out, spot_no (fun k hk => ?_)]
      · rfl
      · have hk' : k < t.attrs.length := by simpa using hk
        obtain ⟨h1, h2⟩ := name_at hk'
        rw [h2]
        exact HAll.out k hk' (by omega)
    go_wp2_with fail
    go_ret
    exact ⟨by rw [HR.out]; rfl, K0.out.trans HKr.out⟩

set_option maxRecDepth 100000 in
set_option maxHeartbeats 4000000 in
theorem ready_any {w : World} {tv sv : Value} {t : Ty} {s : Sa} (ht : TyV w tv t) (hs : StV w sv s) (g : Good t) (f : Sized t s) (k : Nat) (hk : k < t.stages.length) :
    Calls Tryd.prog 31 #[tv, sv, .int .i64 (k : Nat)] w fun e w' => e = .returned (.bool (rdy t s k)) ∧ Kept (fun _ => True) w w' := by
  have HT : Hid (TyV w tv t) := ht
  have HS : Hid (StV w sv s) := hs
  obtain ⟨ta, ts, tm, rfl, ha, hss, hkk⟩ := ht
  obtain ⟨ao, ac, rfl, la⟩ := ha.form
  obtain ⟨so, sc, rfl, ls⟩ := hss.form
  obtain ⟨mo, mc, rfl, lm⟩ := hkk.form
  obtain ⟨va, vd, vg, rfl, h1, h2, h3⟩ := hs
  obtain ⟨vo, vc, rfl, -, -⟩ := h1.ints
  obtain ⟨eo, ec, rfl, -, -⟩ := h2.bools
  obtain ⟨go, gc, rfl, -, -⟩ := h3.bools
  obtain ⟨x1, x2⟩ := alloc_two w (.cells #[.string ⟨t.name.toArray⟩, .slice ao t.attrs.length ac, .slice so t.stages.length sc, .slice mo t.marks.length mc] 26) (.cells #[.string ⟨s.type.toArray⟩, .slice vo s.vals.length vc, .slice eo s.done.length ec, .slice go s.got.length gc] 32)
  have hk0 : Kept (fun _ => True) w ((w.alloc (.cells #[.string ⟨t.name.toArray⟩, .slice ao t.attrs.length ac, .slice so t.stages.length sc, .slice mo t.marks.length mc] 26)).alloc (.cells #[.string ⟨s.type.toArray⟩, .slice vo s.vals.length vc, .slice eo s.done.length ec, .slice go s.got.length gc] 32)) := ((Kept.refl _ _).alloc _).alloc _
  have hd : k < s.done.length := by rw [f.done]; exact hk
  obtain ⟨b, off, rfl, hb, q0, q1⟩ := (hss.all hk0).at k hk
  obtain ⟨b2, off2, rfl, hb2, c0⟩ := (h2.all hk0).boolAt k hd
  have k1 : (k : Int) < (t.stages.length : Int) := by omega
  have k2 : (k : Int) < (s.done.length : Int) := by omega
  have k3 : (0 : Int) ≤ (k : Int) := by omega
  have hfew : Few s := by
    have := g.na; have := g.ns; have := g.nm; have := f.vals; have := f.done; have := f.got
    exact ⟨by omega, by omega, by omega⟩
  have HH : Hid (∀ W, Kept (fun _ => True) w W → Calls Tryd.prog 25 #[.agg #[.string ⟨t.name.toArray⟩, .slice ao t.attrs.length ac, .slice (some ⟨b, off, none⟩) t.stages.length sc, .slice mo t.marks.length mc], .agg #[.string ⟨s.type.toArray⟩, .slice vo s.vals.length vc, .slice (some ⟨b2, off2, none⟩) s.done.length ec, .slice go s.got.length gc], .string ⟨(t.stages[k]).guard.toArray⟩] W fun e w' => e = .returned (.bool (hld t s (t.stages[k]).guard)) ∧ Kept (fun _ => True) W w') :=
    fun W q => holds_any (HT.out.all q) (HS.out.all q) hfew (by have := g.few; omega) (by have := g.guards _ (List.mem_append.2 (.inl (List.getElem_mem hk))); omega)
  have HR : Hid (rdy t s k = (!(s.done[k]) && hld t s (t.stages[k]).guard)) := by
    show _ = _
    simp [rdy, List.getD_eq_getElem?_getD, hk, hd]
  rw [HR.out]
  have K0 : Hid _ := hk0
  clear HR
  generalize s.done[k] = d at *
  generalize t.stages[k] = rl at *
  obtain ⟨rn, gd1⟩ := rl
  simp only at q0 q1 HH ⊢
  generalize hld t s gd1 = q at *
  clear h1 h2 h3 ha hss hkk HT HS g f hk hd hfew
  go_enter Tryd.func31, Tryd.ntmps31
  go_upto_region 1 with fail
  generalize (w.alloc (.cells #[.string ⟨t.name.toArray⟩, .slice ao t.attrs.length ac, .slice (some ⟨b, off, none⟩) t.stages.length sc, .slice mo t.marks.length mc] 26)).alloc (.cells #[.string ⟨s.type.toArray⟩, .slice vo s.vals.length vc, .slice (some ⟨b2, off2, none⟩) s.done.length ec, .slice go s.got.length gc] 32) = wb at *
  generalize w.heap.size = B at *
  obtain ⟨⟨y0, y1, y2, y3⟩, _⟩ := four_cell x1
  obtain ⟨⟨z0, z1, z2, z3⟩, _⟩ := four_cell x2
  have X0 := fun W (q : Kept (fun _ => True) wb W) => (kept_cell q (lt_of_block x1) trivial).trans y0
  have X1 := fun W (q : Kept (fun _ => True) wb W) => (kept_cell q (lt_of_block x1) trivial).trans y1
  have X2 := fun W (q : Kept (fun _ => True) wb W) => (kept_cell q (lt_of_block x1) trivial).trans y2
  have X3 := fun W (q : Kept (fun _ => True) wb W) => (kept_cell q (lt_of_block x1) trivial).trans y3
  have U0 := fun W (q : Kept (fun _ => True) wb W) => (kept_cell q (lt_of_block x2) trivial).trans z0
  have U1 := fun W (q : Kept (fun _ => True) wb W) => (kept_cell q (lt_of_block x2) trivial).trans z1
  have U2 := fun W (q : Kept (fun _ => True) wb W) => (kept_cell q (lt_of_block x2) trivial).trans z2
  have U3 := fun W (q : Kept (fun _ => True) wb W) => (kept_cell q (lt_of_block x2) trivial).trans z3
  have C0 := fun W (q : Kept (fun _ => True) wb W) => (kept_cell q hb2 trivial).trans c0
  have Q1 := fun W (q : Kept (fun _ => True) wb W) => (kept_cell q hb trivial).trans q1
  have kd : Kept (fun _ => True) wb wb.drew := (Kept.refl _ _).drew
  clear y0 y1 y2 y3 z0 z1 z2 z3 q0 q1 c0 x1 x2 hb hb2
  cases d
  · go_region_held3 (fun W => Kept (fun _ => True) wb W) (assumption) (first
      | (go_at_call 25; refine Calls.mono (HH.out _ (K0.out.trans (by assumption))) ?_; rintro e v5 ⟨rfl, m5⟩; have p5 : Kept (fun _ => True) wb v5 := Kept.trans (by assumption) m5; clear m5))
    all_goals
      go_wp2_with fail
      go_ret
      exact ⟨rfl, K0.out.trans (by assumption)⟩
  · have z2 := U2 wb (Kept.refl _ _)
    have c0 := C0 wb (Kept.refl _ _)
    clear X0 X1 X2 X3 U0 U1 U2 U3 C0 Q1 kd HH
    go_quiet (fail)
    go_wp2_with fail
    go_ret
    exact ⟨rfl, K0.out.drewN _⟩

end Go.Proofs.YtnddpalngjmhnabDoor
