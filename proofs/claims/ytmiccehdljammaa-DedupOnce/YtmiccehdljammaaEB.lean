/-
  A table in memory: the program's and the document's; clients as rows of three cells.
-/
import Derived.Test.YtmiccehdljammaaEPlain
import Derived.Deep.RegionLaw
import Derived.Deep.RegionHeldLaw
namespace Go.Proofs.Ytmiccehdljammaa
open Go.RowKit

/-- A store into what was made behind a. -/
theorem Kept.setNew {p : Nat → Prop} {a w : World} (h : Kept p a w) {ad : Addr} (hp : a.heap.size ≤ ad.block) (u : Value) : Kept p a (w.setCell ad u) :=
  ⟨h.os, h.tape, h.output, by simpa [World.setCell] using h.size, fun k hk hpk => (Below.heap_setCell _ _ _ _ (by omega)).trans (h.block k hk hpk)⟩

theorem cell_kept {p : Nat → Prop} {w w' : World} {a : Addr} {v : Value} (k : Kept p w w') (h : w.cell? a = some v) (hp : p a.block) : w'.cell? a = some v :=
  (World.cell?_of_block (w := w) (k.block a.block (World.block_lt_of_cell? w _ h) hp)).trans h

/-- The three cells of a client: as the program lays them, or as the document does. -/
def lay (p : Bool) (x : La) : List Value := if p = true then [.string ⟨x.c.toArray⟩, .int .i64 x.i, .string ⟨x.r.toArray⟩] else [.string ⟨x.c.toArray⟩, .string ⟨x.r.toArray⟩, .int .i64 x.i]
def row (p : Bool) (xs : List La) : List Value := xs.flatMap (lay p)

theorem lay_length (p : Bool) (x : La) : (lay p x).length = 3 := by cases p <;> rfl
theorem row_nil (p : Bool) : row p [] = [] := rfl
theorem row_cons (p : Bool) (x : La) (xs : List La) : row p (x :: xs) = lay p x ++ row p xs := rfl
theorem row_length (p : Bool) (xs : List La) : (row p xs).length = xs.length * 3 := by
  induction xs with
  | nil => rfl
  | cons x xs ih => rw [row_cons]; simp [ih, lay_length]; omega
theorem row_append (p : Bool) (xs ys : List La) : row p (xs ++ ys) = row p xs ++ row p ys := by simp [row]
theorem row_take (p : Bool) : ∀ (xs : List La) (k : Nat), (row p xs).take (k * 3) = row p (xs.take k)
  | xs, 0 => by simp [row]
  | [], k + 1 => by simp [row]
  | x :: xs, k + 1 => by
    rw [List.take_succ_cons, row_cons, row_cons, ← row_take p xs k, List.take_append, lay_length, List.take_of_length_le (by rw [lay_length]; omega), show (k + 1) * 3 - 3 = k * 3 by omega]
theorem row_drop (p : Bool) : ∀ (xs : List La) (k : Nat), (row p xs).drop (k * 3) = row p (xs.drop k)
  | xs, 0 => by simp
  | [], k + 1 => by simp [row]
  | x :: xs, k + 1 => by
    rw [List.drop_succ_cons, row_cons, ← row_drop p xs k, List.drop_append, lay_length, List.drop_eq_nil_of_le (by rw [lay_length]; omega), show (k + 1) * 3 - 3 = k * 3 by omega, List.nil_append]
theorem row_get (p : Bool) : ∀ (xs : List La) (k : Nat) (h : k < xs.length) (j : Nat), j < 3 → (row p xs)[k * 3 + j]? = (lay p xs[k])[j]?
  | x :: xs, 0, _, j, hj => by
    rw [row_cons, Nat.zero_mul, Nat.zero_add, List.getElem?_append_left (by rw [lay_length]; exact hj)]
    rfl
  | x :: xs, k + 1, h, j, hj => by
    have := row_get p xs k (by simpa using h) j hj
    rw [row_cons, show (k + 1) * 3 + j = 3 + (k * 3 + j) by omega, List.getElem?_append_right (by rw [lay_length]; omega), lay_length, Nat.add_sub_cancel_left, this]
    rfl
theorem lay_one (p : Bool) (x : La) : ∀ u ∈ lay p x, u.oneCell' = true := by
  intro u hu
  cases p <;> simp [lay] at hu <;> rcases hu with rfl | rfl | rfl <;> rfl
theorem row_one (p : Bool) (xs : List La) : ∀ u ∈ row p xs, u.oneCell' = true := by
  intro u hu
  obtain ⟨x, _, hm⟩ := List.mem_flatMap.1 hu
  exact lay_one p x u hm

/-- A table in block B, its type t, that of its clients e; v is its slice. -/
structure Tb (t e : TypeId) (p : Bool) (w : World) (B : Nat) (v : Value) (m : Int) (xs : List La) : Prop where
  self : w.heap[B]? = some (.cells #[.int .i64 m, v] t (0, 0))
  own : w.ownsRow 0 e 3 v xs.length (row p xs)
  ty : t ≠ e
  most : xs.length ≤ 100

theorem two_cell {w : World} {b : Nat} {x y : Value} {t : TypeId} (h : w.heap[b]? = some (.cells #[x, y] t (0, 0))) :
    w.cell? ⟨b, 0, none⟩ = some x ∧ w.cell? ⟨b, 1, none⟩ = some y ∧ w.frozen? ⟨b, 0, none⟩ = false ∧ w.frozen? ⟨b, 1, none⟩ = false := by
  refine ⟨by simp [World.cell?, h], by simp [World.cell?, h], by simp [World.frozen?, h], by simp [World.frozen?, h]⟩
theorem two_set {w : World} {b : Nat} {x y : Value} {t : TypeId} (h : w.heap[b]? = some (.cells #[x, y] t (0, 0))) (u : Value) : (w.setCell ⟨b, 1, none⟩ u).heap[b]? = some (.cells #[x, u] t (0, 0)) := by
  have hlt := lt_of_block h
  have h' : w.heap[b] = .cells #[x, y] t (0, 0) := by simpa [Array.getElem?_eq_getElem hlt] using h
  show (w.heap.modify b _)[b]? = _
  rw [Array.getElem?_eq_getElem (by simpa using hlt), Array.getElem_modify_self, h']
  rfl
theorem three_cell {w : World} {b : Nat} {x y z : Value} {t : TypeId} {fr : Nat × Nat} (h : w.heap[b]? = some (.cells #[x, y, z] t fr)) :
    w.cell? ⟨b, 0, none⟩ = some x ∧ w.cell? ⟨b, 1, none⟩ = some y ∧ w.cell? ⟨b, 2, none⟩ = some z := ⟨by simp [World.cell?, h], by simp [World.cell?, h], by simp [World.cell?, h]⟩

theorem own_kept3 {p : Nat → Prop} {w w' : World} {b e sz n : Nat} {v : Value} {xs : List Value} (h : w.ownsRow b e sz v n xs) (hk : Kept p w w') (hp : ∀ k, v.ownBlock = some k → p k) : w'.ownsRow b e sz v n xs := by
  refine ⟨h.1, ?_⟩
  rcases h.2 with h0 | ⟨g, cap, cur, rfl, hb, hh, rest⟩
  · exact .inl h0
  · exact .inr ⟨g, cap, cur, rfl, hb, (hk.block g (lt_of_block hh) (hp g rfl)).trans hh, rest⟩
/-- A row is not of two types. -/
theorem own_type {w : World} {b e sz n : Nat} {v : Value} {xs : List Value} (h : w.ownsRow b e sz v n xs) {B : Nat} {cs : Array Value} {t : TypeId} {fr : Nat × Nat} (hB : w.heap[B]? = some (.cells cs t fr)) (ht : t ≠ e) : v.ownBlock ≠ some B := by
  intro q
  rcases h.2 with ⟨hv, _⟩ | ⟨g, cap, cur, hv, _, hh, _⟩
  · rw [hv] at q; simp [Value.ownBlock] at q
  · rw [hv] at q; simp [Value.ownBlock] at q
    subst q
    rw [hB] at hh
    simp at hh
    exact ht hh.2.1
theorem own_types {w : World} {b e sz n b' e' sz' n' : Nat} {v v' : Value} {xs xs' : List Value} (h : w.ownsRow b e sz v n xs) (h' : w.ownsRow b' e' sz' v' n' xs') (he : e ≠ e') : ∀ k, v.ownBlock = some k → v'.ownBlock ≠ some k := by
  intro k hk
  rcases h.2 with ⟨hv, _⟩ | ⟨g, cap, cur, hv, _, hh, _⟩
  · rw [hv] at hk; simp [Value.ownBlock] at hk
  · rw [hv] at hk; simp [Value.ownBlock] at hk
    subst hk
    exact own_type h' hh he

section
variable {t e : TypeId} {p : Bool} {w : World} {B : Nat} {v : Value} {m : Int} {xs : List La}

theorem Tb.ne (h : Tb t e p w B v m xs) : v.ownBlock ≠ some B := own_type h.own h.self h.ty
theorem Tb.lt (h : Tb t e p w B v m xs) : B < w.heap.size := lt_of_block h.self
theorem Tb.rowlt (h : Tb t e p w B v m xs) : ∀ k, v.ownBlock = some k → k < w.heap.size := fun k hk => (h.own.lt k hk).2
theorem Tb.kept {q : Nat → Prop} {w' : World} (h : Tb t e p w B v m xs) (hk : Kept q w w') (hB : q B) (hG : ∀ k, v.ownBlock = some k → q k) : Tb t e p w' B v m xs :=
  ⟨(hk.block B h.lt hB).trans h.self, own_kept3 h.own hk hG, h.ty, h.most⟩
theorem Tb.all {w' : World} (h : Tb t e p w B v m xs) (hk : Kept (fun _ => True) w w') : Tb t e p w' B v m xs := h.kept hk trivial (fun _ _ => trivial)
theorem Tb.shape (h : Tb t e p w B v m xs) : ∃ ao cap, v = .slice ao xs.length cap ∧ xs.length ≤ cap ∧ (ao = none → cap = 0) ∧ (0 < xs.length → ∃ g, ao = some ⟨g, 0, none⟩) := by
  rcases h.own.2 with ⟨hv, h0⟩ | ⟨g, cap, cur, hv, _, hh, hc, _⟩
  · exact ⟨none, 0, by rw [hv, h0], by omega, fun _ => rfl, fun hp => by omega⟩
  · exact ⟨_, cap, hv, hc, by simp, fun _ => ⟨g, rfl⟩⟩
end

/-- The cells of the client k. -/
theorem row_cell {p : Bool} {w : World} {b e g len cap : Nat} {xs : List La} (h : w.ownsRow b e 3 (.slice (some ⟨g, 0, none⟩) len cap) xs.length (row p xs)) (k : Nat) (hk : k < xs.length) (j : Nat) (hj : j < 3) :
    w.cell? ⟨g, k * 3 + j, none⟩ = (lay p xs[k])[j]? := by
  rcases h.2 with ⟨h', _⟩ | ⟨g', cap', cur, h', hb, hg, hc, hm, hs, ht⟩
  · simp at h'
  · simp only [Value.slice.injEq, Option.some.injEq, Addr.mk.injEq, and_true] at h'
    obtain ⟨rfl, rfl, rfl⟩ := h'
    have h2 : w.ownsRow b e 3 (.slice (some ⟨g, 0, none⟩) xs.length cap) xs.length (row p xs) := ⟨h.1, .inr ⟨g, cap, cur, rfl, hb, hg, hc, hm, hs, ht⟩⟩
    exact (h2.cellAt _ (by omega)).trans (row_get p xs k hk j hj)
theorem lay_cells {w : World} {b e g len cap : Nat} {xs : List La} (h : w.ownsRow b e 3 (.slice (some ⟨g, 0, none⟩) len cap) xs.length (row true xs)) (k : Nat) (hk : k < xs.length) :
    w.cell? ⟨g, k * 3, none⟩ = some (.string ⟨(xs[k]).c.toArray⟩) ∧ w.cell? ⟨g, k * 3 + 1, none⟩ = some (.int .i64 xs[k].i) ∧ w.cell? ⟨g, k * 3 + 2, none⟩ = some (.string ⟨(xs[k]).r.toArray⟩) :=
  ⟨row_cell h k hk 0 (by omega), row_cell h k hk 1 (by omega), row_cell h k hk 2 (by omega)⟩
theorem lay_cells' {w : World} {b e g len cap : Nat} {xs : List La} (h : w.ownsRow b e 3 (.slice (some ⟨g, 0, none⟩) len cap) xs.length (row false xs)) (k : Nat) (hk : k < xs.length) :
    w.cell? ⟨g, k * 3, none⟩ = some (.string ⟨(xs[k]).c.toArray⟩) ∧ w.cell? ⟨g, k * 3 + 1, none⟩ = some (.string ⟨(xs[k]).r.toArray⟩) ∧ w.cell? ⟨g, k * 3 + 2, none⟩ = some (.int .i64 xs[k].i) :=
  ⟨row_cell h k hk 0 (by omega), row_cell h k hk 1 (by omega), row_cell h k hk 2 (by omega)⟩

/-- What a call that turns a table leaves. -/
structure TStep (t e : TypeId) (p : Bool) (w w' : World) (B : Nat) (v v' : Value) (m : Int) (xs : List La) : Prop where
  now : Tb t e p w' B v' m xs
  kept : Kept (fun x => x ≠ B ∧ v.ownBlock ≠ some x) w w'
  new : ∀ x, v'.ownBlock = some x → v.ownBlock = some x ∨ w.heap.size ≤ x

section
variable {t e : TypeId} {p : Bool} {a b c : World} {B : Nat} {v v' v'' : Value} {m : Int} {xs ys : List La}
theorem TStep.refl (h : Tb t e p a B v m xs) : TStep t e p a a B v v m xs := ⟨h, Kept.refl _ _, fun _ hx => .inl hx⟩
theorem TStep.trans (h : TStep t e p a b B v v' m xs) (k : TStep t e p b c B v' v'' m ys) : TStep t e p a c B v v'' m ys := by
  refine ⟨k.now, h.kept.then k.kept (fun i hi hp => ⟨hp.1, fun hG => ?_⟩), fun x hx => ?_⟩
  · rcases h.new i hG with e | e
    · exact hp.2 e
    · omega
  · rcases k.new x hx with e | e
    · exact h.new x e
    · exact .inr (Nat.le_trans h.kept.size e)
theorem TStep.after (k : Kept (fun _ => True) a b) (h : TStep t e p b c B v v' m xs) : TStep t e p a c B v v' m xs :=
  ⟨h.now, (k.mono (fun _ _ _ => trivial)).trans h.kept, fun x hx => (h.new x hx).imp id (fun e => Nat.le_trans k.size e)⟩
theorem TStep.ahead (h : TStep t e p a b B v v' m xs) (k : Kept (fun _ => True) b c) : TStep t e p a c B v v' m xs :=
  ⟨h.now.all k, h.kept.trans (k.mono (fun _ _ _ => trivial)), h.new⟩
end

/-- Behind an append of one client and the store of the new slice. -/
theorem Tb.grow {t e : TypeId} {p : Bool} {wr w0 w1 : World} {B : Nat} {v nv : Value} {m : Int} {xs : List La} {x : La} {n : Nat} (hw : Tb t e p wr B v m xs) (h0 : Kept (fun _ => True) wr w0) (hn : n = xs.length + 1) (hl : n ≤ 100)
    (hown : w1.ownsRow 0 e 3 nv n (row p xs ++ row p [x])) (hgrow : w0.grownBy w1 v.ownBlock) (hat : nv.ownBlock = v.ownBlock ∨ nv.ownBlock = some w0.heap.size) :
    TStep t e p wr (w1.setCell ⟨B, 1, none⟩ nv) B v nv m (xs ++ [x]) := by
  have hne : nv.ownBlock ≠ some B := by
    rcases hat with h | h
    · rw [h]; exact hw.ne
    · rw [h]; intro e; cases e; have := hw.lt; have := h0.size; omega
  have hlt0 : B < w0.heap.size := Nat.lt_of_lt_of_le hw.lt h0.size
  have hs1 : w1.heap[B]? = some (.cells #[.int .i64 m, v] t (0, 0)) := by
    rw [hgrow.block B hlt0 (Ne.symm hw.ne), h0.block B hw.lt trivial]
    exact hw.self
  subst hn
  refine ⟨⟨two_set hs1 _, ?_, hw.ty, by simpa using hl⟩, ?_, ?_⟩
  · rw [row_append, List.length_append]
    exact ownsRow_setCell_other hown (a := ⟨B, 1, none⟩) hne nv
  · refine ((h0.mono (fun _ _ _ => trivial)).grown hgrow (fun k _ hk hp => ?_)).setCell (by simp) _
    exact hp.2 hk
  · intro x hx
    rcases hat with h | h
    · exact .inl (h.symm.trans hx)
    · rw [h] at hx; cases hx; exact .inr h0.size
/-- Another slice, whose row is the old one's or new. -/
theorem Tb.swap {t e : TypeId} {p : Bool} {w w2 : World} {B : Nat} {v nv : Value} {m : Int} {xs ys : List La} (h : Tb t e p w B v m xs) (k : Kept (fun x => v.ownBlock ≠ some x) w w2) (ho : w2.ownsRow 0 e 3 nv ys.length (row p ys)) (hat : ∀ x, nv.ownBlock = some x → v.ownBlock = some x ∨ w.heap.size ≤ x) (hm : ys.length ≤ 100) :
    TStep t e p w (w2.setCell ⟨B, 1, none⟩ nv) B v nv m ys := by
  have hne : nv.ownBlock ≠ some B := fun q => by
    rcases hat B q with q | q
    · exact h.ne q
    · have := h.lt; omega
  have hs1 : w2.heap[B]? = some (.cells #[.int .i64 m, v] t (0, 0)) := (k.block B h.lt h.ne).trans h.self
  exact ⟨⟨two_set hs1 _, ownsRow_setCell_other ho (a := ⟨B, 1, none⟩) hne nv, h.ty, hm⟩, (k.mono (fun _ _ hp => hp.2)).setCell (by simp) _, hat⟩

theorem shape_any {w : World} {b e sz n : Nat} {v : Value} {xs : List Value} (h : w.ownsRow b e sz v n xs) : ∃ ao cap, v = .slice ao n cap := by
  rcases h.2 with ⟨e, rfl⟩ | ⟨g, cap, _, e, _⟩
  · exact ⟨_, _, e⟩
  · exact ⟨_, _, e⟩

/-- An append of one client that lies in a block by itself. T: the slice's type, e: the client's. -/
theorem append_last {T e by' : Nat} {p : Bool} {z : Value} (hT : Try.prog.underlying T = some (.slice e)) (hI : (Try.prog.info? e).map (fun i => (i.zero, i.size, i.bytes)) = some (some z, 3, by')) (hz : z.cells.size = 3) (hby : by' ≤ 64)
    (w : World) (ty : TypeId) (v : Value) (n : Nat) (xs : List La) (hn : xs.length = n) (hown : w.ownsRow 0 e 3 v n (row p xs)) (G : Nat) (x : La) (fr : Nat × Nat) (hG : w.heap[G]? = some (.cells (lay p x).toArray e fr)) (hm : n ≤ 600) :
    ∃ ao' cap' w', (Builtin.append_ #[T, T] ty #[v, .slice (some ⟨G, 0, none⟩) 1 1]).run Try.prog w = .ok (.slice ao' (n + 1) cap') w' ∧ w'.ownsRow 0 e 3 (.slice ao' (n + 1) cap') (n + 1) (row p xs ++ row p [x]) ∧ w.grownBy w' v.ownBlock ∧
      ((Value.slice ao' (n + 1) cap').ownBlock = v.ownBlock ∨ (Value.slice ao' (n + 1) cap').ownBlock = some w.heap.size) := by
  obtain ⟨i, hi, hz0, hz1, hz2⟩ := info_parts hI
  have hG' : w.heap[G]? = some (.cells (row p [x]).toArray e fr) := by rw [hG]; simp [row]
  obtain ⟨v', w', hr, h2, h3, _, h5⟩ := run_append_own_at (P := Try.prog) w 0 T ty e i z 3 by' hT hi hz0 hz1 hz2 hz (by decide) v n (row p xs) hown ⟨G, 0, none⟩ 1 1 (row p [x]) (by rw [row_length]; rfl) (World.news_of_block (w := w) hG') (row_one p [x]) (by unfold maxLen; omega) (Nat.le_trans (Nat.mul_le_mul (by omega : n + 1 ≤ 601) hby) (by decide)) (Nat.zero_le _)
  obtain ⟨ao', cap', rfl⟩ := shape_any h2
  exact ⟨ao', cap', w', hr, h2, h3, h5⟩

theorem wpList_append_last {T e by' : Nat} {p : Bool} {z : Value} {w : World} {ops : Array Oper} {rest : List Oper} {o : Oper} {a : Act} {Q : Exit → Act → World → Prop} (hT : Try.prog.underlying T = some (.slice e)) (hI : (Try.prog.info? e).map (fun i => (i.zero, i.size, i.bytes)) = some (some z, 3, by')) (hz : z.cells.size = 3) (hby : by' ≤ 64)
    (hgd : o.guard = none) (sl y : Operand) (ho : o.op = .call { callee := .builtin .append, args := #[sl, y], argTypes := #[T, T] })
    (v : Value) (n : Nat) (xs : List La) (hs : a.eval sl = v) (hn : xs.length = n) (hown : w.ownsRow 0 e 3 v n (row p xs)) (G : Nat) (hy : a.eval y = .slice (some ⟨G, 0, none⟩) 1 1) (x : La) (fr : Nat × Nat) (hG : w.heap[G]? = some (.cells (lay p x).toArray e fr)) (hm : n ≤ 600)
    (h : ∀ ao' cap' w', w'.ownsRow 0 e 3 (.slice ao' (n + 1) cap') (n + 1) (row p xs ++ row p [x]) → w.grownBy w' v.ownBlock → ((Value.slice ao' (n + 1) cap').ownBlock = v.ownBlock ∨ (Value.slice ao' (n + 1) cap').ownBlock = some w.heap.size) → wpList Try.prog ops Q rest (a.put o.dst (.slice ao' (n + 1) cap')) w') : wpList Try.prog ops Q (o :: rest) a w := by
  refine wpList_plain hgd fun K hK => ?_
  obtain ⟨ao', cap', w', hr, h2, h3, h4⟩ := append_last hT hI hz hby w o.type v n xs hn hown G x fr hG hm
  unfold Oper.wp execOp
  simp only [ho, resolve, invoke, builtin, Sem.run_bind, Sem.run_pure, Result.andThen_ok, List.map_toArray, List.map_cons, List.map_nil, hs, hy, hr]
  exact hK _ _ (h ao' cap' w' h2 h3 h4)

theorem step_append_last {T e by' : Nat} {p : Bool} {z : Value} {w : World} {ops : Array Oper} {o : Oper} {a : Act} {K : Act → World → Prop} {Q : Exit → Act → World → Prop} {E : Prop} (hT : Try.prog.underlying T = some (.slice e)) (hI : (Try.prog.info? e).map (fun i => (i.zero, i.size, i.bytes)) = some (some z, 3, by')) (hz : z.cells.size = 3) (hby : by' ≤ 64)
    (hgd : o.guard = none) (sl y : Operand) (ho : o.op = .call { callee := .builtin .append, args := #[sl, y], argTypes := #[T, T] })
    (v : Value) (n : Nat) (xs : List La) (hs : a.eval sl = v) (hn : xs.length = n) (hown : w.ownsRow 0 e 3 v n (row p xs)) (G : Nat) (hy : a.eval y = .slice (some ⟨G, 0, none⟩) 1 1) (x : La) (fr : Nat × Nat) (hG : w.heap[G]? = some (.cells (lay p x).toArray e fr)) (hm : n ≤ 600)
    (h : ∀ ao' cap' w', w'.ownsRow 0 e 3 (.slice ao' (n + 1) cap') (n + 1) (row p xs ++ row p [x]) → w.grownBy w' v.ownBlock → ((Value.slice ao' (n + 1) cap').ownBlock = v.ownBlock ∨ (Value.slice ao' (n + 1) cap').ownBlock = some w.heap.size) → K (a.put o.dst (.slice ao' (n + 1) cap')) w') : if Region.wanted o (yielded ops a.tmps) = true then Oper.wp Try.prog o a w K Q else E := by
  have hw : Region.wanted o (yielded ops a.tmps) = true := by simp [Region.wanted, hgd]
  rw [if_pos hw]
  obtain ⟨ao', cap', w', hr, h2, h3, h4⟩ := append_last hT hI hz hby w o.type v n xs hn hown G x fr hG hm
  unfold Oper.wp execOp
  simp only [ho, resolve, invoke, builtin, Sem.run_bind, Sem.run_pure, Result.andThen_ok, List.map_toArray, List.map_cons, List.map_nil, hs, hy, hr]
  exact h ao' cap' w' h2 h3 h4

theorem Try.infoLast : (Try.prog.info? 37).map (fun i => (i.zero, i.size, i.bytes)) = some (some (.agg #[.string .empty, .int .i64 0, .string .empty]), 3, 40) := by kernel_rfl
theorem cells_last : (Value.agg #[.string .empty, .int .i64 0, .string .empty]).cells.size = 3 := by simp [Value.cells]
theorem cells_oneV : (Value.agg #[.string .empty, .string .empty, .int .i64 0]).cells.size = 3 := by simp [Value.cells]

/-- The program's table. -/
abbrev Pt (w : World) (B : Nat) (v : Value) (m : Int) (xs : List La) : Prop := Tb 34 37 true w B v m xs
abbrev PS (w w' : World) (B : Nat) (v v' : Value) (m : Int) (xs : List La) : Prop := TStep 34 37 true w w' B v v' m xs
end Go.Proofs.Ytmiccehdljammaa
