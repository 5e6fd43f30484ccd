/-
  Rows of readings in memory: the program's and the document's; appends to them.
-/
import Derived.Test.YtmppejhcjnodhaaG3
import Derived.Deep.RegionLaw
import Derived.Deep.RegionHeldLaw
namespace Go.Proofs.Ytmppejhcjnodhaa
open Go.RowKit

/-- The two cells of a reading. -/
def rlay (x : Int × Int) : List Value := [.int .i64 x.1, .int .i64 x.2]
def rrow (xs : List (Int × Int)) : List Value := xs.flatMap rlay
theorem rrow_cons (x : Int × Int) (xs : List (Int × Int)) : rrow (x :: xs) = rlay x ++ rrow xs := rfl
theorem rrow_length (xs : List (Int × Int)) : (rrow xs).length = xs.length * 2 := by
  induction xs with
  | nil => rfl
  | cons x xs ih => rw [rrow_cons]; simp [ih, rlay]; omega
theorem rrow_append (xs ys : List (Int × Int)) : rrow (xs ++ ys) = rrow xs ++ rrow ys := by simp [rrow]
theorem rrow_get : ∀ (xs : List (Int × Int)) (k : Nat) (h : k < xs.length) (j : Nat), j < 2 → (rrow xs)[k * 2 + j]? = (rlay xs[k])[j]?
  | x :: xs, 0, _, j, hj => by
    rw [rrow_cons, Nat.zero_mul, Nat.zero_add, List.getElem?_append_left (by simpa [rlay] using hj)]
    rfl
  | x :: xs, k + 1, h, j, hj => by
    have := rrow_get xs k (by simpa using h) j hj
    rw [rrow_cons, show (k + 1) * 2 + j = 2 + (k * 2 + j) by omega, List.getElem?_append_right (by simp [rlay]), show (rlay x).length = 2 from rfl, Nat.add_sub_cancel_left, this]
    rfl
theorem rrow_one (xs : List (Int × Int)) : ∀ u ∈ rrow xs, u.oneCell' = true := by
  intro u hu
  obtain ⟨x, _, hm⟩ := List.mem_flatMap.1 hu
  simp [rlay] at hm
  rcases hm with rfl | rfl <;> rfl

theorem shape_any {w : World} {b e sz n : Nat} {v : Value} {xs : List Value} (h : w.ownsRow b e sz v n xs) : ∃ ao cap, v = .slice ao n cap := by
  rcases h.2 with ⟨e, rfl⟩ | ⟨g, cap, _, e, _⟩
  · exact ⟨_, _, e⟩
  · exact ⟨_, _, e⟩
theorem own_ge {w : World} {b e sz n : Nat} {v : Value} {xs : List Value} (h : w.ownsRow b e sz v n xs) {k : Nat} (hk : v.ownBlock = some k) : b ≤ k := by
  rcases h.2 with ⟨rfl, _⟩ | ⟨g, cap, cur, rfl, hb, _⟩
  · simp [Value.ownBlock] at hk
  · simp [Value.ownBlock] at hk
    omega
theorem own_kept2 {p : Nat → Prop} {w w' : World} {b e sz n : Nat} {v : Value} {xs : List Value} (h : w.ownsRow b e sz v n xs) (hk : Kept p w w') (hp : ∀ k, v.ownBlock = some k → p k) : w'.ownsRow b e sz v n xs := by
  refine ⟨h.1, ?_⟩
  rcases h.2 with h0 | ⟨g, cap, cur, rfl, hb, hh, rest⟩
  · exact .inl h0
  · exact .inr ⟨g, cap, cur, rfl, hb, (hk.block g (lt_of_block hh) (hp g rfl)).trans hh, rest⟩

theorem own_rd {w : World} {b e : Nat} {v : Value} {xs : List (Int × Int)} (h : w.ownsRow b e 2 v xs.length (rrow xs)) : ∃ ao cap, v = .slice ao xs.length cap ∧ xs.length ≤ cap ∧ Rd w ao xs ∧ (∀ ad, ao = some ad → v.ownBlock = some ad.block ∧ ad.off = 0 ∧ ad.spot = none) ∧ (ao = none → cap = 0 ∧ xs = []) := by
  have h' := h
  rcases h.2 with ⟨rfl, h0⟩ | ⟨g, cap, cur, rfl, hb, hg, hc, hm, hs, ht⟩
  · exact ⟨none, 0, by rw [h0], by omega, ⟨fun h => by omega⟩, by simp, fun _ => ⟨rfl, List.eq_nil_of_length_eq_zero h0⟩⟩
  · refine ⟨_, cap, rfl, hc, ⟨fun h0 => ⟨g, 0, rfl, lt_of_block hg, fun i hi => ?_⟩⟩, fun ad e => by cases e; exact ⟨rfl, rfl, rfl⟩, by simp⟩
    constructor
    · rw [Nat.zero_add]
      exact (h'.cellAt (i * 2) (by omega)).trans (rrow_get xs i hi 0 (by omega))
    · rw [Nat.zero_add]
      exact (h'.cellAt (i * 2 + 1) (by omega)).trans (rrow_get xs i hi 1 (by omega))
theorem rd_src {w : World} {ad : Addr} {ys : List (Int × Int)} (h : Rd w (some ad) ys) : ∀ j u, (rrow ys)[j]? = some u → w.cell? (ad.add j) = some u := by
  intro j u hu
  have hj := (List.getElem?_eq_some_iff.1 hu).1
  rw [rrow_length] at hj
  obtain ⟨b, off, e, _, hc⟩ := h.row (by omega)
  cases e
  rw [WideShapes.add_plain]
  have hi : j / 2 < ys.length := by omega
  have hg := rrow_get ys (j / 2) hi (j % 2) (by omega)
  rw [show j / 2 * 2 + j % 2 = j by omega, hu] at hg
  obtain ⟨h0, h1⟩ := hc (j / 2) hi
  rcases Nat.mod_two_eq_zero_or_one j with e | e
  · rw [e] at hg
    rw [show off + j = off + j / 2 * 2 by omega, h0]
    exact hg.symm
  · rw [e] at hg
    rw [show off + j = off + j / 2 * 2 + 1 by omega, h1]
    exact hg.symm

/-- An append of readings that lie anywhere. -/
theorem append_rd {T e by' : Nat} {z : Value} (hT : Try.prog.underlying T = some (.slice e)) (hI : (Try.prog.info? e).map (fun i => (i.zero, i.size, i.bytes)) = some (some z, 2, by')) (hz : z.cells.size = 2) (hby : by' ≤ 64)
    (w : World) (ty : TypeId) (base : Nat) (v : Value) (n : Nat) (xs : List (Int × Int)) (hown : w.ownsRow base e 2 v n (rrow xs)) (hb : base ≤ w.heap.size) (ad : Addr) (k c : Nat) (ys : List (Int × Int)) (hk : ys.length = k) (hsrc : Rd w (some ad) ys) (hm : n + k ≤ 2000) :
    ∃ ao' cap' w', (Builtin.append_ #[T, T] ty #[v, .slice (some ad) k c]).run Try.prog w = .ok (.slice ao' (n + k) cap') w' ∧ w'.ownsRow base e 2 (.slice ao' (n + k) cap') (n + k) (rrow (xs ++ ys)) ∧ w.grownBy w' v.ownBlock ∧
      ((Value.slice ao' (n + k) cap').ownBlock = v.ownBlock ∨ (Value.slice ao' (n + k) cap').ownBlock = some w.heap.size) := by
  obtain ⟨i, hi, hz0, hz1, hz2⟩ := info_parts hI
  obtain ⟨v', w', hr, h2, h3, _, h5⟩ := run_append_own_at (P := Try.prog) w base T ty e i z 2 by' hT hi hz0 hz1 hz2 hz (by decide) v n (rrow xs) hown ad k c (rrow ys) (by rw [rrow_length, hk]) (rd_src hsrc) (rrow_one ys) (by unfold maxLen; omega) (Nat.le_trans (Nat.mul_le_mul (by omega : n + k ≤ 2000) hby) (by decide)) hb
  obtain ⟨ao', cap', rfl⟩ := shape_any h2
  rw [← rrow_append] at h2
  exact ⟨ao', cap', w', hr, h2, h3, h5⟩

theorem step_append_rd {T e by' : Nat} {z : Value} {w : World} {ops : Array Oper} {o : Oper} {a : Act} {K : Act → World → Prop} {Q : Exit → Act → World → Prop} {E : Prop} (hT : Try.prog.underlying T = some (.slice e)) (hI : (Try.prog.info? e).map (fun i => (i.zero, i.size, i.bytes)) = some (some z, 2, by')) (hz : z.cells.size = 2) (hby : by' ≤ 64)
    (hgd : o.guard = none) (sl y : Operand) (ho : o.op = .call { callee := .builtin .append, args := #[sl, y], argTypes := #[T, T] })
    (base : Nat) (v : Value) (n : Nat) (xs : List (Int × Int)) (hs : a.eval sl = v) (hown : w.ownsRow base e 2 v n (rrow xs)) (hb : base ≤ w.heap.size) (ad : Addr) (k c : Nat) (ys : List (Int × Int)) (hy : a.eval y = .slice (some ad) k c) (hk : ys.length = k) (hsrc : Rd w (some ad) ys) (hm : n + k ≤ 2000)
    (h : ∀ ao' cap' w', w'.ownsRow base e 2 (.slice ao' (n + k) cap') (n + k) (rrow (xs ++ ys)) → w.grownBy w' v.ownBlock → ((Value.slice ao' (n + k) cap').ownBlock = v.ownBlock ∨ (Value.slice ao' (n + k) cap').ownBlock = some w.heap.size) → K (a.put o.dst (.slice ao' (n + k) cap')) w') : if Region.wanted o (yielded ops a.tmps) = true then Oper.wp Try.prog o a w K Q else E := by
  have hw : Region.wanted o (yielded ops a.tmps) = true := by simp [Region.wanted, hgd]
  rw [if_pos hw]
  obtain ⟨ao', cap', w', hr, h2, h3, h4⟩ := append_rd hT hI hz hby w o.type base v n xs hown hb ad k c ys hk hsrc hm
  unfold Oper.wp execOp
  simp only [ho, resolve, invoke, builtin, Sem.run_bind, Sem.run_pure, Result.andThen_ok, List.map_toArray, List.map_cons, List.map_nil, hs, hy, hr]
  exact h ao' cap' w' h2 h3 h4

theorem wpList_append_rd {T e by' : Nat} {z : Value} {w : World} {ops : Array Oper} {rest : List Oper} {o : Oper} {a : Act} {Q : Exit → Act → World → Prop} (hT : Try.prog.underlying T = some (.slice e)) (hI : (Try.prog.info? e).map (fun i => (i.zero, i.size, i.bytes)) = some (some z, 2, by')) (hz : z.cells.size = 2) (hby : by' ≤ 64)
    (hgd : o.guard = none) (sl y : Operand) (ho : o.op = .call { callee := .builtin .append, args := #[sl, y], argTypes := #[T, T] })
    (base : Nat) (v : Value) (n : Nat) (xs : List (Int × Int)) (hs : a.eval sl = v) (hown : w.ownsRow base e 2 v n (rrow xs)) (hb : base ≤ w.heap.size) (ad : Addr) (k c : Nat) (ys : List (Int × Int)) (hy : a.eval y = .slice (some ad) k c) (hk : ys.length = k) (hsrc : Rd w (some ad) ys) (hm : n + k ≤ 2000)
    (h : ∀ ao' cap' w', w'.ownsRow base e 2 (.slice ao' (n + k) cap') (n + k) (rrow (xs ++ ys)) → w.grownBy w' v.ownBlock → ((Value.slice ao' (n + k) cap').ownBlock = v.ownBlock ∨ (Value.slice ao' (n + k) cap').ownBlock = some w.heap.size) → wpList Try.prog ops Q rest (a.put o.dst (.slice ao' (n + k) cap')) w') : wpList Try.prog ops Q (o :: rest) a w := by
  refine wpList_plain hgd fun K hK => ?_
  obtain ⟨ao', cap', w', hr, h2, h3, h4⟩ := append_rd hT hI hz hby w o.type base v n xs hown hb ad k c ys hk hsrc hm
  unfold Oper.wp execOp
  simp only [ho, resolve, invoke, builtin, Sem.run_bind, Sem.run_pure, Result.andThen_ok, List.map_toArray, List.map_cons, List.map_nil, hs, hy, hr]
  exact hK _ _ (h ao' cap' w' h2 h3 h4)

/-- An empty row that has just been made. -/
theorem own_new2 (e : TypeId) (w : World) (base : Nat) (hb : base ≤ w.heap.size) : (w.alloc (.cells #[] e)).ownsRow base e 2 (.slice (some ⟨w.heap.size, 0, none⟩) 0 0) 0 (rrow []) :=
  ⟨by simp [rrow], .inr ⟨w.heap.size, 0, #[], rfl, hb, heap_alloc_new w _, Nat.zero_le _, by unfold maxLen; omega, by simp, by simp [rrow]⟩⟩
/-- One reading that has just been made. -/
theorem rd_one {w : World} {b : Nat} {e : TypeId} {fr : Nat × Nat} {x y : Int} (h : w.heap[b]? = some (.cells #[.int .i64 x, .int .i64 y] e fr)) : Rd w (some ⟨b, 0, none⟩) [(x, y)] :=
  ⟨fun _ => ⟨b, 0, rfl, lt_of_block h, fun i hi => by
    obtain rfl : i = 0 := by simpa using hi
    exact ⟨by simp [World.cell?, h], by simp [World.cell?, h]⟩⟩⟩
theorem rd_two {w : World} {b : Nat} {e : TypeId} {fr : Nat × Nat} {x y z u : Int} (h : w.heap[b]? = some (.cells #[.int .i64 x, .int .i64 y, .int .i64 z, .int .i64 u] e fr)) : Rd w (some ⟨b, 0, none⟩) [(x, y), (z, u)] :=
  ⟨fun _ => ⟨b, 0, rfl, lt_of_block h, fun i hi => by
    match i, hi with
    | 0, _ => exact ⟨by simp [World.cell?, h], by simp [World.cell?, h]⟩
    | 1, _ => exact ⟨by simp [World.cell?, h], by simp [World.cell?, h]⟩⟩⟩

theorem Try.infoRd : (Try.prog.info? 35).map (fun i => (i.zero, i.size, i.bytes)) = some (some (.agg #[.int .i64 0, .int .i64 0]), 2, 16) := by kernel_rfl

end Go.Proofs.Ytmppejhcjnodhaa
