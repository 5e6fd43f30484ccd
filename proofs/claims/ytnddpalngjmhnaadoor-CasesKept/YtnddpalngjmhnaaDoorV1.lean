/-
  Rows of numbers and of truths: looked at, one's own, appended to, made; a state in memory.
-/
import Derived.Test.YtnddpalngjmhnaaDoorVPlain
import Derived.Test.YtnddpalngjmhnaaDoorT9
import Derived.Test.YtnddpalngjmhnaaDoorPInts
import Derived.Deep.OwnRows
namespace Go.Proofs.YtnddpalngjmhnaaDoor
open Go.RowKit

def iv (xs : List Int) : List Value := xs.map (Value.int .i64)
def bv (xs : List Bool) : List Value := xs.map Value.bool
theorem iv_len (xs : List Int) : (iv xs).length = xs.length := by simp [iv]
theorem bv_len (xs : List Bool) : (bv xs).length = xs.length := by simp [bv]
theorem iv_one (xs : List Int) : ∀ u ∈ iv xs, u.oneCell' = true := by
  intro u hu
  obtain ⟨n, _, rfl⟩ := List.mem_map.1 hu
  rfl
theorem bv_one (xs : List Bool) : ∀ u ∈ bv xs, u.oneCell' = true := by
  intro u hu
  obtain ⟨n, _, rfl⟩ := List.mem_map.1 hu
  rfl
theorem iv_append (a b : List Int) : iv (a ++ b) = iv a ++ iv b := by simp [iv]
theorem bv_append (a b : List Bool) : bv (a ++ b) = bv a ++ bv b := by simp [bv]
theorem iv_set (a : List Int) (i : Nat) (n : Int) : (iv a).set i (.int .i64 n) = iv (a.set i n) := by simp [iv, List.map_set]
theorem bv_set (a : List Bool) (i : Nat) (n : Bool) : (bv a).set i (.bool n) = bv (a.set i n) := by simp [bv, List.map_set]

/-- A row of cells that is looked at. -/
def Cv (w : World) (v : Value) (xs : List Value) : Prop :=
  ∃ ao cap, v = .slice ao xs.length cap ∧ xs.length ≤ 281474976710656 ∧ (ao = none → cap = 0) ∧ (0 < xs.length → ∃ b off, ao = some ⟨b, off, none⟩ ∧ b < w.heap.size ∧ ∀ i (h : i < xs.length), w.cell? ⟨b, off + i, none⟩ = some xs[i])
theorem Cv.kept {p : Nat → Prop} {w w' : World} {v : Value} {xs : List Value} (h : Cv w v xs) (k : Kept p w w') (hp : ∀ b, b < w.heap.size → p b) : Cv w' v xs := by
  obtain ⟨ao, cap, e, hl, hn, h⟩ := h
  refine ⟨ao, cap, e, hl, hn, fun h0 => ?_⟩
  obtain ⟨b, off, e, hb, hc⟩ := h h0
  exact ⟨b, off, e, Nat.lt_of_lt_of_le hb k.size, fun i hi => (kept_cell k hb (hp b hb)).trans (hc i hi)⟩
theorem Cv.all {w w' : World} {v : Value} {xs : List Value} (h : Cv w v xs) (k : Kept (fun _ => True) w w') : Cv w' v xs := h.kept k (fun _ _ => trivial)
theorem Cv.nil (w : World) : Cv w (.slice none 0 0) [] := ⟨none, 0, rfl, by simp, fun _ => rfl, fun h => by simp at h⟩
theorem Cv.vi {w : World} {v : Value} {xs : List Int} (h : Cv w v (iv xs)) : Vi w v xs := by
  obtain ⟨ao, cap, e, hl, hn, h⟩ := h
  rw [iv_len] at e hl
  refine ⟨ao, cap, e, fun h0 => ?_⟩
  obtain ⟨b, off, e, hb, hc⟩ := h (by rw [iv_len]; exact h0)
  exact ⟨b, off, e, hb, fun i hi => by rw [hc i (by rw [iv_len]; exact hi)]; simp [iv]⟩
theorem Cv.ints {w : World} {v : Value} {xs : List Int} (h : Cv w v (iv xs)) : ∃ ao cap, v = .slice ao xs.length cap ∧ xs.length ≤ 281474976710656 ∧ ∀ i (hi : i < xs.length), ∃ b off, ao = some ⟨b, off, none⟩ ∧ b < w.heap.size ∧ w.cell? ⟨b, off + i, none⟩ = some (.int .i64 xs[i]) := by
  obtain ⟨ao, cap, e, hl, hn, h⟩ := h
  rw [iv_len] at e hl
  refine ⟨ao, cap, e, hl, fun i hi => ?_⟩
  obtain ⟨b, off, e, hb, hc⟩ := h (by rw [iv_len]; omega)
  exact ⟨b, off, e, hb, by rw [hc i (by rw [iv_len]; exact hi)]; simp [iv]⟩
theorem Cv.bools {w : World} {v : Value} {xs : List Bool} (h : Cv w v (bv xs)) : ∃ ao cap, v = .slice ao xs.length cap ∧ xs.length ≤ 281474976710656 ∧ ∀ i (hi : i < xs.length), ∃ b off, ao = some ⟨b, off, none⟩ ∧ b < w.heap.size ∧ w.cell? ⟨b, off + i, none⟩ = some (.bool xs[i]) := by
  obtain ⟨ao, cap, e, hl, hn, h⟩ := h
  rw [bv_len] at e hl
  refine ⟨ao, cap, e, hl, fun i hi => ?_⟩
  obtain ⟨b, off, e, hb, hc⟩ := h (by rw [bv_len]; omega)
  exact ⟨b, off, e, hb, by rw [hc i (by rw [bv_len]; exact hi)]; simp [bv]⟩
/-- The same at a place, the slice's parts known. -/
theorem Cv.intAt {w : World} {ao : Option Addr} {n cap : Nat} {xs : List Int} (h : Cv w (.slice ao n cap) (iv xs)) (i : Nat) (hi : i < xs.length) : ∃ b off, ao = some ⟨b, off, none⟩ ∧ b < w.heap.size ∧ w.cell? ⟨b, off + i, none⟩ = some (.int .i64 xs[i]) := by
  obtain ⟨ao', cap', e, _, h2⟩ := h.ints
  cases e
  exact h2 i hi
theorem Cv.boolAt {w : World} {ao : Option Addr} {n cap : Nat} {xs : List Bool} (h : Cv w (.slice ao n cap) (bv xs)) (i : Nat) (hi : i < xs.length) : ∃ b off, ao = some ⟨b, off, none⟩ ∧ b < w.heap.size ∧ w.cell? ⟨b, off + i, none⟩ = some (.bool xs[i]) := by
  obtain ⟨ao', cap', e, _, h2⟩ := h.bools
  cases e
  exact h2 i hi
theorem own_cv {w : World} {b e n : Nat} {v : Value} {xs : List Value} (h : w.ownsRow b e 1 v n xs) (hl : n ≤ 281474976710656) : Cv w v xs := by
  have hx := h.1
  rw [Nat.mul_one] at hx
  rcases h.2 with ⟨rfl, rfl⟩ | ⟨g, cap, cur, rfl, hb, hg, h1, h2, h3, h4⟩
  · obtain rfl := List.eq_nil_of_length_eq_zero hx
    exact Cv.nil w
  · refine ⟨some ⟨g, 0, none⟩, cap, by rw [hx], by rw [hx]; exact hl, fun h => (by cases h), fun _ => ⟨g, 0, rfl, lt_of_block hg, fun i hi => ?_⟩⟩
    rw [Nat.zero_add, h.cellAt i (by omega)]
    simp [hi]
theorem Tryd.infoNum : (Tryd.prog.info? 3).map (fun i => (i.zero, i.size, i.bytes)) = some (some (.int .i64 0), 1, 8) := by kernel_rfl
theorem Tryd.infoTruth : (Tryd.prog.info? 4).map (fun i => (i.zero, i.size, i.bytes)) = some (some (.bool false), 1, 1) := by kernel_rfl

theorem append_nums (w : World) (ty : TypeId) (base : Nat) (v : Value) (n : Nat) (xs : List Value) (h : w.ownsRow base 3 1 v n xs) (hb : base ≤ w.heap.size) (y : Value) (ys : List Value) (hy : Cv w y ys) (h1 : ∀ u ∈ ys, u.oneCell' = true) (hm : n + ys.length ≤ 100000000) :
    ∃ ao' cap' w', (Builtin.append_ #[28, 28] ty #[v, y]).run Tryd.prog w = .ok (.slice ao' (n + ys.length) cap') w' ∧ w'.ownsRow base 3 1 (.slice ao' (n + ys.length) cap') (n + ys.length) (xs ++ ys) ∧ w.grownBy w' v.ownBlock ∧ ((Value.slice ao' (n + ys.length) cap').ownBlock = v.ownBlock ∨ (Value.slice ao' (n + ys.length) cap').ownBlock = some w.heap.size) := by
  obtain ⟨i, hi, hz0, hz1, hz2⟩ := info_parts Tryd.infoNum
  obtain ⟨ao, cap, rfl, _, hn, hc⟩ := hy
  cases ao with
  | none =>
    have hc0 := hn rfl
    have h0 : ys.length = 0 := by
      rcases Nat.eq_zero_or_pos ys.length with h | h
      · exact h
      · obtain ⟨_, _, e, _⟩ := hc h; cases e
    obtain rfl := List.eq_nil_of_length_eq_zero h0
    subst hc0
    have hrun := run_append_owned_none (P := Tryd.prog) (w := w) base 28 ty 3 i 1 Tryd.underlying28 hi v n xs h
    obtain ⟨ao', cap', rfl, _⟩ := own_form h
    exact ⟨ao', cap', w, hrun, by simpa using h, ⟨rfl, rfl, rfl, Nat.le_refl _, fun _ _ _ => rfl⟩, .inl rfl⟩
  | some ad =>
    have hsrc : ∀ j u, ys[j]? = some u → w.cell? (ad.add j) = some u := by
      intro j u hu
      obtain ⟨hj, e⟩ := List.getElem?_eq_some_iff.1 hu
      obtain ⟨b, off, e2, _, hc'⟩ := hc (by omega)
      cases e2
      rw [WideShapes.add_plain, hc' j hj, e]
    obtain ⟨v', w', hr, h2, h3, _, h5⟩ := run_append_own_at (P := Tryd.prog) w base 28 ty 3 i (.int .i64 0) 1 8 Tryd.underlying28 hi hz0 hz1 hz2 (by simp [Value.cells]) (by decide) v n xs h ad ys.length cap ys (by omega) hsrc h1 (by unfold maxLen; omega) (by omega) hb
    obtain ⟨ao', cap', rfl, _⟩ := own_form h2
    exact ⟨ao', cap', w', hr, h2, h3, h5⟩
theorem wpList_append_nums {w : World} {ops : Array Oper} {rest : List Oper} {o : Oper} {a : Act} {Q : Exit → Act → World → Prop} (hgd : o.guard = none) (sl y : Operand) (ho : o.op = .call { callee := .builtin .append, args := #[sl, y], argTypes := #[28, 28] })
    (base : Nat) (v : Value) (n : Nat) (xs : List Value) (hs : a.eval sl = v) (h : w.ownsRow base 3 1 v n xs) (hb : base ≤ w.heap.size) (yv : Value) (hy : a.eval y = yv) (ys : List Value) (hR : Cv w yv ys) (h1 : ∀ u ∈ ys, u.oneCell' = true) (hm : n + ys.length ≤ 100000000) (N : Nat) (hN : n + ys.length = N)
    (hK : ∀ ao' cap' w', w'.ownsRow base 3 1 (.slice ao' N cap') N (xs ++ ys) → w.grownBy w' v.ownBlock → ((Value.slice ao' N cap').ownBlock = v.ownBlock ∨ (Value.slice ao' N cap').ownBlock = some w.heap.size) → wpList Tryd.prog ops Q rest (a.put o.dst (.slice ao' N cap')) w') : wpList Tryd.prog ops Q (o :: rest) a w := by
  subst hN
  refine wpList_plain hgd fun K hK' => ?_
  obtain ⟨ao', cap', w', hr, h2, h3, h4⟩ := append_nums w o.type base v n xs h hb yv ys hR h1 hm
  unfold Oper.wp execOp
  simp only [ho, resolve, invoke, builtin, Sem.run_bind, Sem.run_pure, Result.andThen_ok, List.map_toArray, List.map_cons, List.map_nil, hs, hy, hr]
  exact hK' _ _ (hK ao' cap' w' h2 h3 h4)
theorem step_append_nums {w : World} {ops : Array Oper} {o : Oper} {a : Act} {K : Act → World → Prop} {Q : Exit → Act → World → Prop} {E : Prop} (hgd : o.guard = none) (sl y : Operand) (ho : o.op = .call { callee := .builtin .append, args := #[sl, y], argTypes := #[28, 28] })
    (base : Nat) (v : Value) (n : Nat) (xs : List Value) (hs : a.eval sl = v) (h : w.ownsRow base 3 1 v n xs) (hb : base ≤ w.heap.size) (yv : Value) (hy : a.eval y = yv) (ys : List Value) (hR : Cv w yv ys) (h1 : ∀ u ∈ ys, u.oneCell' = true) (hm : n + ys.length ≤ 100000000) (N : Nat) (hN : n + ys.length = N)
    (hK : ∀ ao' cap' w', w'.ownsRow base 3 1 (.slice ao' N cap') N (xs ++ ys) → w.grownBy w' v.ownBlock → ((Value.slice ao' N cap').ownBlock = v.ownBlock ∨ (Value.slice ao' N cap').ownBlock = some w.heap.size) → K (a.put o.dst (.slice ao' N cap')) w') : if Region.wanted o (yielded ops a.tmps) = true then Oper.wp Tryd.prog o a w K Q else E := by
  subst hN
  have hw : Region.wanted o (yielded ops a.tmps) = true := by simp [Region.wanted, hgd]
  rw [if_pos hw]
  obtain ⟨ao', cap', w', hr, h2, h3, h4⟩ := append_nums w o.type base v n xs h hb yv ys hR h1 hm
  unfold Oper.wp execOp
  simp only [ho, resolve, invoke, builtin, Sem.run_bind, Sem.run_pure, Result.andThen_ok, List.map_toArray, List.map_cons, List.map_nil, hs, hy, hr]
  exact hK ao' cap' w' h2 h3 h4
theorem make_nums (n : Nat) (hn : n ≤ 1000000) (W : World) : (Instr.makeSlice 28 (.int .i64 (n : Int)) (.int .i64 (n : Int))).run Tryd.prog W = .ok (.slice (some ⟨W.heap.size, 0, none⟩) n n) (W.alloc (.cells (madeCells #[.int .i64 0] n) 3)) :=
  run_make_row' (P := Tryd.prog) 28 3 (.int .i64 0) 8 Tryd.underlying28 Tryd.infoNum (by simp [Value.cells]) .i64 .i64 n (by omega) (by omega) W
theorem made_nums (w : World) (base n : Nat) (hn : n ≤ 1000000) (hb : base ≤ w.heap.size) : (w.alloc (.cells (madeCells #[.int .i64 0] n) 3)).ownsRow base 3 1 (.slice (some ⟨w.heap.size, 0, none⟩) n n) n (iv (List.replicate n (0 : Int))) := by
  have h := World.ownsRow_lit (base := base) (e := 3) (size := 1) w (madeCells #[.int .i64 0] n) n hb (by unfold maxLen; omega) (by simp [madeCells])
  rw [toList_madeCells_one] at h
  simpa [iv] using h
theorem empty_nums (w : World) (base : Nat) (hb : base ≤ w.heap.size) : (w.alloc (.cells #[] 3)).ownsRow base 3 1 (.slice (some ⟨w.heap.size, 0, none⟩) 0 0) 0 [] :=
  World.ownsRow_lit (base := base) (e := 3) (size := 1) w #[] 0 hb (by unfold maxLen; omega) (by simp)
/-- One that lies in a block of its own. -/
theorem Cv.one_nums {w : World} {G : Nat} {u : Value} {fr : Nat × Nat} (h : w.heap[G]? = some (.cells #[u] 3 fr)) : Cv w (.slice (some ⟨G, 0, none⟩) 1 1) [u] :=
  ⟨_, _, rfl, by simp, fun h => (by cases h), fun _ => ⟨G, 0, rfl, lt_of_block h, fun i hi => by
    have : i = 0 := by simpa using hi
    subst this
    rw [cell_of_row w G _ _ _ _ h]; rfl⟩⟩

theorem append_truths (w : World) (ty : TypeId) (base : Nat) (v : Value) (n : Nat) (xs : List Value) (h : w.ownsRow base 4 1 v n xs) (hb : base ≤ w.heap.size) (y : Value) (ys : List Value) (hy : Cv w y ys) (h1 : ∀ u ∈ ys, u.oneCell' = true) (hm : n + ys.length ≤ 100000000) :
    ∃ ao' cap' w', (Builtin.append_ #[29, 29] ty #[v, y]).run Tryd.prog w = .ok (.slice ao' (n + ys.length) cap') w' ∧ w'.ownsRow base 4 1 (.slice ao' (n + ys.length) cap') (n + ys.length) (xs ++ ys) ∧ w.grownBy w' v.ownBlock ∧ ((Value.slice ao' (n + ys.length) cap').ownBlock = v.ownBlock ∨ (Value.slice ao' (n + ys.length) cap').ownBlock = some w.heap.size) := by
  obtain ⟨i, hi, hz0, hz1, hz2⟩ := info_parts Tryd.infoTruth
  obtain ⟨ao, cap, rfl, _, hn, hc⟩ := hy
  cases ao with
  | none =>
    have hc0 := hn rfl
    have h0 : ys.length = 0 := by
      rcases Nat.eq_zero_or_pos ys.length with h | h
      · exact h
      · obtain ⟨_, _, e, _⟩ := hc h; cases e
    obtain rfl := List.eq_nil_of_length_eq_zero h0
    subst hc0
    have hrun := run_append_owned_none (P := Tryd.prog) (w := w) base 29 ty 4 i 1 Tryd.underlying29 hi v n xs h
    obtain ⟨ao', cap', rfl, _⟩ := own_form h
    exact ⟨ao', cap', w, hrun, by simpa using h, ⟨rfl, rfl, rfl, Nat.le_refl _, fun _ _ _ => rfl⟩, .inl rfl⟩
  | some ad =>
    have hsrc : ∀ j u, ys[j]? = some u → w.cell? (ad.add j) = some u := by
      intro j u hu
      obtain ⟨hj, e⟩ := List.getElem?_eq_some_iff.1 hu
      obtain ⟨b, off, e2, _, hc'⟩ := hc (by omega)
      cases e2
      rw [WideShapes.add_plain, hc' j hj, e]
    obtain ⟨v', w', hr, h2, h3, _, h5⟩ := run_append_own_at (P := Tryd.prog) w base 29 ty 4 i (.bool false) 1 1 Tryd.underlying29 hi hz0 hz1 hz2 (by simp [Value.cells]) (by decide) v n xs h ad ys.length cap ys (by omega) hsrc h1 (by unfold maxLen; omega) (by omega) hb
    obtain ⟨ao', cap', rfl, _⟩ := own_form h2
    exact ⟨ao', cap', w', hr, h2, h3, h5⟩
theorem wpList_append_truths {w : World} {ops : Array Oper} {rest : List Oper} {o : Oper} {a : Act} {Q : Exit → Act → World → Prop} (hgd : o.guard = none) (sl y : Operand) (ho : o.op = .call { callee := .builtin .append, args := #[sl, y], argTypes := #[29, 29] })
    (base : Nat) (v : Value) (n : Nat) (xs : List Value) (hs : a.eval sl = v) (h : w.ownsRow base 4 1 v n xs) (hb : base ≤ w.heap.size) (yv : Value) (hy : a.eval y = yv) (ys : List Value) (hR : Cv w yv ys) (h1 : ∀ u ∈ ys, u.oneCell' = true) (hm : n + ys.length ≤ 100000000) (N : Nat) (hN : n + ys.length = N)
    (hK : ∀ ao' cap' w', w'.ownsRow base 4 1 (.slice ao' N cap') N (xs ++ ys) → w.grownBy w' v.ownBlock → ((Value.slice ao' N cap').ownBlock = v.ownBlock ∨ (Value.slice ao' N cap').ownBlock = some w.heap.size) → wpList Tryd.prog ops Q rest (a.put o.dst (.slice ao' N cap')) w') : wpList Tryd.prog ops Q (o :: rest) a w := by
  subst hN
  refine wpList_plain hgd fun K hK' => ?_
  obtain ⟨ao', cap', w', hr, h2, h3, h4⟩ := append_truths w o.type base v n xs h hb yv ys hR h1 hm
  unfold Oper.wp execOp
  simp only [ho, resolve, invoke, builtin, Sem.run_bind, Sem.run_pure, Result.andThen_ok, List.map_toArray, List.map_cons, List.map_nil, hs, hy, hr]
  exact hK' _ _ (hK ao' cap' w' h2 h3 h4)
theorem step_append_truths {w : World} {ops : Array Oper} {o : Oper} {a : Act} {K : Act → World → Prop} {Q : Exit → Act → World → Prop} {E : Prop} (hgd : o.guard = none) (sl y : Operand) (ho : o.op = .call { callee := .builtin .append, args := #[sl, y], argTypes := #[29, 29] })
    (base : Nat) (v : Value) (n : Nat) (xs : List Value) (hs : a.eval sl = v) (h : w.ownsRow base 4 1 v n xs) (hb : base ≤ w.heap.size) (yv : Value) (hy : a.eval y = yv) (ys : List Value) (hR : Cv w yv ys) (h1 : ∀ u ∈ ys, u.oneCell' = true) (hm : n + ys.length ≤ 100000000) (N : Nat) (hN : n + ys.length = N)
    (hK : ∀ ao' cap' w', w'.ownsRow base 4 1 (.slice ao' N cap') N (xs ++ ys) → w.grownBy w' v.ownBlock → ((Value.slice ao' N cap').ownBlock = v.ownBlock ∨ (Value.slice ao' N cap').ownBlock = some w.heap.size) → K (a.put o.dst (.slice ao' N cap')) w') : if Region.wanted o (yielded ops a.tmps) = true then Oper.wp Tryd.prog o a w K Q else E := by
  subst hN
  have hw : Region.wanted o (yielded ops a.tmps) = true := by simp [Region.wanted, hgd]
  rw [if_pos hw]
  obtain ⟨ao', cap', w', hr, h2, h3, h4⟩ := append_truths w o.type base v n xs h hb yv ys hR h1 hm
  unfold Oper.wp execOp
  simp only [ho, resolve, invoke, builtin, Sem.run_bind, Sem.run_pure, Result.andThen_ok, List.map_toArray, List.map_cons, List.map_nil, hs, hy, hr]
  exact hK ao' cap' w' h2 h3 h4
theorem make_truths (n : Nat) (hn : n ≤ 1000000) (W : World) : (Instr.makeSlice 29 (.int .i64 (n : Int)) (.int .i64 (n : Int))).run Tryd.prog W = .ok (.slice (some ⟨W.heap.size, 0, none⟩) n n) (W.alloc (.cells (madeCells #[.bool false] n) 4)) :=
  run_make_row' (P := Tryd.prog) 29 4 (.bool false) 1 Tryd.underlying29 Tryd.infoTruth (by simp [Value.cells]) .i64 .i64 n (by omega) (by omega) W
theorem made_truths (w : World) (base n : Nat) (hn : n ≤ 1000000) (hb : base ≤ w.heap.size) : (w.alloc (.cells (madeCells #[.bool false] n) 4)).ownsRow base 4 1 (.slice (some ⟨w.heap.size, 0, none⟩) n n) n (bv (List.replicate n false)) := by
  have h := World.ownsRow_lit (base := base) (e := 4) (size := 1) w (madeCells #[.bool false] n) n hb (by unfold maxLen; omega) (by simp [madeCells])
  rw [toList_madeCells_one] at h
  simpa [bv] using h
theorem empty_truths (w : World) (base : Nat) (hb : base ≤ w.heap.size) : (w.alloc (.cells #[] 4)).ownsRow base 4 1 (.slice (some ⟨w.heap.size, 0, none⟩) 0 0) 0 [] :=
  World.ownsRow_lit (base := base) (e := 4) (size := 1) w #[] 0 hb (by unfold maxLen; omega) (by simp)
/-- One that lies in a block of its own. -/
theorem Cv.one_truths {w : World} {G : Nat} {u : Value} {fr : Nat × Nat} (h : w.heap[G]? = some (.cells #[u] 4 fr)) : Cv w (.slice (some ⟨G, 0, none⟩) 1 1) [u] :=
  ⟨_, _, rfl, by simp, fun h => (by cases h), fun _ => ⟨G, 0, rfl, lt_of_block h, fun i hi => by
    have : i = 0 := by simpa using hi
    subst this
    rw [cell_of_row w G _ _ _ _ h]; rfl⟩⟩

/-- A state that is looked at; one of one's own, from base on. -/
def StV (w : World) (v : Value) (s : Sa) : Prop := ∃ va vd vg, v = .agg #[.string ⟨s.type.toArray⟩, va, vd, vg] ∧ Cv w va (iv s.vals) ∧ Cv w vd (bv s.done) ∧ Cv w vg (bv s.got)
structure So (w : World) (base : Nat) (va vd vg : Value) (s : Sa) : Prop where
  vals : w.ownsRow base 3 1 va s.vals.length (iv s.vals)
  done : w.ownsRow base 4 1 vd s.done.length (bv s.done)
  got : w.ownsRow base 4 1 vg s.got.length (bv s.got)
  apart : ∀ k, vd.ownBlock = some k → vg.ownBlock ≠ some k
def StO (w : World) (base : Nat) (v : Value) (s : Sa) : Prop := ∃ va vd vg, v = .agg #[.string ⟨s.type.toArray⟩, va, vd, vg] ∧ So w base va vd vg s
/-- Few of each. -/
structure Few (s : Sa) : Prop where
  vals : s.vals.length ≤ 1000000
  done : s.done.length ≤ 1000000
  got : s.got.length ≤ 1000000
theorem Fit.few {t : Ty} {s : Sa} (h : Fit t s) (g : Good t) : Few s := by
  have := g.na; have := g.ns; have := g.nm; have := h.sz.vals; have := h.sz.done; have := h.sz.got
  exact ⟨by omega, by omega, by omega⟩
theorem StV.all {w w' : World} {v : Value} {s : Sa} (h : StV w v s) (k : Kept (fun _ => True) w w') : StV w' v s := by
  obtain ⟨va, vd, vg, e, h1, h2, h3⟩ := h
  exact ⟨va, vd, vg, e, h1.all k, h2.all k, h3.all k⟩
theorem StV.low {w w' : World} {v : Value} {s : Sa} (h : StV w v s) (k : Kept (· < w.heap.size) w w') : StV w' v s := by
  obtain ⟨va, vd, vg, e, h1, h2, h3⟩ := h
  exact ⟨va, vd, vg, e, h1.kept k (fun _ h => h), h2.kept k (fun _ h => h), h3.kept k (fun _ h => h)⟩
theorem StV.none (w : World) : StV w (.agg #[.string ⟨#[]⟩, .slice none 0 0, .slice none 0 0, .slice none 0 0]) Sa.none := ⟨_, _, _, rfl, Cv.nil w, Cv.nil w, Cv.nil w⟩
theorem So.all {w w' : World} {base : Nat} {va vd vg : Value} {s : Sa} (h : So w base va vd vg s) (k : Kept (fun _ => True) w w') : So w' base va vd vg s :=
  ⟨own_keep h.vals k (fun _ _ => trivial), own_keep h.done k (fun _ _ => trivial), own_keep h.got k (fun _ _ => trivial), h.apart⟩
theorem StO.all {w w' : World} {base : Nat} {v : Value} {s : Sa} (h : StO w base v s) (k : Kept (fun _ => True) w w') : StO w' base v s := by
  obtain ⟨va, vd, vg, e, h⟩ := h
  exact ⟨va, vd, vg, e, h.all k⟩
theorem StO.none (w : World) (base : Nat) : StO w base (.agg #[.string ⟨#[]⟩, .slice none 0 0, .slice none 0 0, .slice none 0 0]) Sa.none :=
  ⟨_, _, _, rfl, World.ownsRow_nil _ _ _ _, World.ownsRow_nil _ _ _ _, World.ownsRow_nil _ _ _ _, fun k h => (by cases h)⟩
theorem StO.lower {w : World} {base b : Nat} {v : Value} {s : Sa} (h : StO w base v s) (hb : b ≤ base) : StO w b v s := by
  obtain ⟨va, vd, vg, e, h⟩ := h
  exact ⟨va, vd, vg, e, ownsRow_low h.vals hb, ownsRow_low h.done hb, ownsRow_low h.got hb, h.apart⟩
theorem So.view {w : World} {base : Nat} {va vd vg : Value} {s : Sa} (h : So w base va vd vg s) (f : Few s) : Cv w va (iv s.vals) ∧ Cv w vd (bv s.done) ∧ Cv w vg (bv s.got) := by
  have := f.vals; have := f.done; have := f.got
  exact ⟨own_cv h.vals (by omega), own_cv h.done (by omega), own_cv h.got (by omega)⟩
theorem StO.view {w : World} {base : Nat} {v : Value} {s : Sa} (h : StO w base v s) (f : Few s) : StV w v s := by
  obtain ⟨va, vd, vg, e, h⟩ := h
  obtain ⟨h1, h2, h3⟩ := h.view f
  exact ⟨va, vd, vg, e, h1, h2, h3⟩
theorem TyV.low {w w' : World} {v : Value} {t : Ty} (h : TyV w v t) (k : Kept (· < w.heap.size) w w') : TyV w' v t := by
  obtain ⟨va, vs, vm, e, ⟨a1, a2, a3, a4, a5, a6⟩, ⟨b1, b2, b3, b4, b5, b6⟩, ⟨c1, c2, c3, c4, c5, c6⟩⟩ := h
  refine ⟨va, vs, vm, e, ⟨a1, a2, a3, a4, a5, fun h0 => ?_⟩, ⟨b1, b2, b3, b4, b5, fun h0 => ?_⟩, ⟨c1, c2, c3, c4, c5, fun h0 => ?_⟩⟩
  · obtain ⟨b, off, e, hb, hc⟩ := a6 h0
    refine ⟨b, off, e, Nat.lt_of_lt_of_le hb k.size, fun i hi => ?_⟩
    simp only [kept_cell k hb hb]
    exact hc i hi
  · obtain ⟨b, off, e, hb, hc⟩ := b6 h0
    refine ⟨b, off, e, Nat.lt_of_lt_of_le hb k.size, fun i hi => ?_⟩
    simp only [kept_cell k hb hb]
    exact hc i hi
  · obtain ⟨b, off, e, hb, hc⟩ := c6 h0
    refine ⟨b, off, e, Nat.lt_of_lt_of_le hb k.size, fun i hi => ?_⟩
    simp only [kept_cell k hb hb]
    exact hc i hi
theorem types_differ {w : World} {b1 b2 n m : Nat} {u v : Value} {xs ys : List Value} (h : w.ownsRow b1 3 1 u n xs) (k : w.ownsRow b2 4 1 v m ys) : ∀ i, u.ownBlock = some i → v.ownBlock ≠ some i := by
  intro i hu hv
  rcases h.2 with ⟨rfl, _⟩ | ⟨g, cap, cur, rfl, _, hg, _⟩
  · cases hu
  · rcases k.2 with ⟨rfl, _⟩ | ⟨g', cap', cur', rfl, _, hg', _⟩
    · cases hv
    · cases hu
      cases hv
      rw [hg] at hg'
      simp at hg'
/-- A mark that is got, a stage that is done, an attribute that is set: in their own rows. -/
theorem So.setGot {w : World} {base g cap n : Nat} {va vd : Value} {s : Sa} (h : So w base va vd (.slice (some ⟨g, 0, none⟩) n cap) s) (hn : n = s.got.length) (i : Nat) (b : Bool) : So (w.setCell ⟨g, i, none⟩ (.bool b)) base va vd (.slice (some ⟨g, 0, none⟩) n cap) { s with got := s.got.set i b } ∧ Kept (· < base) w (w.setCell ⟨g, i, none⟩ (.bool b)) := by
  subst hn
  have hgb := (h.got.lt g rfl).1
  have k : Kept (· ≠ g) w (w.setCell ⟨g, i, none⟩ (.bool b)) := (Kept.refl _ _).setCell (by simp) _
  refine ⟨⟨own_keep h.vals k (fun i e q => types_differ h.vals h.got i e (by rw [q]; rfl)), own_keep h.done k (fun i e q => h.apart i e (by rw [q]; rfl)), ?_, h.apart⟩, (Kept.refl _ _).setCell (by simp; omega) _⟩
  have := (h.got.stored i (.bool b)).1
  rw [bv_set] at this
  simpa using this
theorem So.setDone {w : World} {base g cap n : Nat} {va vg : Value} {s : Sa} (h : So w base va (.slice (some ⟨g, 0, none⟩) n cap) vg s) (hn : n = s.done.length) (i : Nat) (b : Bool) : So (w.setCell ⟨g, i, none⟩ (.bool b)) base va (.slice (some ⟨g, 0, none⟩) n cap) vg { s with done := s.done.set i b } ∧ Kept (· < base) w (w.setCell ⟨g, i, none⟩ (.bool b)) := by
  subst hn
  have hgb := (h.done.lt g rfl).1
  have k : Kept (· ≠ g) w (w.setCell ⟨g, i, none⟩ (.bool b)) := (Kept.refl _ _).setCell (by simp) _
  refine ⟨⟨own_keep h.vals k (fun i e q => types_differ h.vals h.done i e (by rw [q]; rfl)), ?_, own_keep h.got k (fun i e q => h.apart g rfl (by rw [← q]; exact e)), h.apart⟩, (Kept.refl _ _).setCell (by simp; omega) _⟩
  have := (h.done.stored i (.bool b)).1
  rw [bv_set] at this
  simpa using this
theorem So.setVal {w : World} {base g cap n : Nat} {vd vg : Value} {s : Sa} (h : So w base (.slice (some ⟨g, 0, none⟩) n cap) vd vg s) (hn : n = s.vals.length) (i : Nat) (b : Int) : So (w.setCell ⟨g, i, none⟩ (.int .i64 b)) base (.slice (some ⟨g, 0, none⟩) n cap) vd vg { s with vals := s.vals.set i b } ∧ Kept (· < base) w (w.setCell ⟨g, i, none⟩ (.int .i64 b)) := by
  subst hn
  have hgb := (h.vals.lt g rfl).1
  have k : Kept (· ≠ g) w (w.setCell ⟨g, i, none⟩ (.int .i64 b)) := (Kept.refl _ _).setCell (by simp) _
  refine ⟨⟨?_, own_keep h.done k (fun i e q => types_differ h.vals h.done g rfl (by rw [← q]; exact e)), own_keep h.got k (fun i e q => types_differ h.vals h.got g rfl (by rw [← q]; exact e)), h.apart⟩, (Kept.refl _ _).setCell (by simp; omega) _⟩
  have := (h.vals.stored i (.int .i64 b)).1
  rw [iv_set] at this
  simpa using this

end Go.Proofs.YtnddpalngjmhnaaDoor
