/-
  Rows of structs, maps by numbers and clones of rows, whatever they are.
-/
import Derived.Test.YtllopkebamlgeaaUMapI
import Derived.Laws.OwnMore
import Derived.Deep.MidRow
import Derived.Deep.AppendLies
import Derived.Maps.AppendAt
namespace Go.Proofs.Ytllopkebamlgeaa
open Go.RowKit Go.Maps Go.Sort

theorem range_kept {p : Nat → Prop} {w w' : World} {b o : Nat} {cs : List Value} (h : w.rangeAt b o cs) (k : Kept p w w') (hb : b < w.heap.size) (hp : p b) : w'.rangeAt b o cs := fun j v hv => (kept_cell k hb hp).trans (h j v hv)
theorem ownL_kept {e : TypeId} {w w' : World} {v : Value} {p : Nat → Prop} {b n sz : Nat} {ys : List Value} (h : w.ownsRow b e sz v n ys) (hk : Kept p w w') (hp : ∀ k, v.ownBlock = some k → p k) : w'.ownsRow b e sz v n ys := by
  refine ⟨h.1, ?_⟩
  rcases h.2 with h0 | ⟨g, cap, cur, rfl, hb, hh, rest⟩
  · exact .inl h0
  · exact .inr ⟨g, cap, cur, rfl, hb, (hk.block g (lt_of_block hh) (hp g rfl)).trans hh, rest⟩
/-- Many cells of a row of one's own are written. -/
theorem own_setCells {e : TypeId} {base sz n cap g : Nat} : ∀ (vs : List Value) (o : Nat) (w : World) (xs : List Value), w.ownsRow base e sz (.slice (some ⟨g, 0, none⟩) n cap) n xs → o + vs.length ≤ xs.length →
    (w.setCells g o vs).ownsRow base e sz (.slice (some ⟨g, 0, none⟩) n cap) n (xs.take o ++ vs ++ xs.drop (o + vs.length)) ∧ Kept (· ≠ g) w (w.setCells g o vs) ∧ (w.setCells g o vs).heap.size = w.heap.size
  | [], o, w, xs, h, _ => by
    rw [World.setCells]
    refine ⟨?_, Kept.refl _ _, rfl⟩
    have : xs.take o ++ [] ++ xs.drop (o + ([] : List Value).length) = xs := by simp
    rwa [this]
  | v :: vs, o, w, xs, h, hl => by
    rw [World.setCells]
    have h1 := (h.stored o v).1
    have hl' : o + 1 + vs.length ≤ (xs.set o v).length := by simp at hl ⊢; omega
    obtain ⟨h2, h3, h4⟩ := own_setCells vs (o + 1) _ _ h1 hl'
    refine ⟨?_, ((Kept.refl _ _).setCell (by simp) v).trans h3, by rw [h4]; simp [World.setCell]⟩
    have ho : o < xs.length := by simp at hl; omega
    have e1 : (xs.set o v).take (o + 1) = xs.take o ++ [v] := by
      rw [List.take_succ_eq_append_getElem (by simpa using ho), List.take_set_of_le (by omega), List.getElem_set_self]
    have e2 : (xs.set o v).drop (o + 1 + vs.length) = xs.drop (o + (v :: vs).length) := by
      rw [List.drop_set_of_lt (by omega), List.length_cons]
      congr 1
      omega
    rw [e1, e2] at h2
    simpa using h2
theorem own_there {e : TypeId} {base sz n cap g : Nat} {w : World} {xs : List Value} (h : w.ownsRow base e sz (.slice (some ⟨g, 0, none⟩) n cap) n xs) (o m : Nat) (hm : o + m ≤ xs.length) : w.there g o m := fun j hj => by
  have hx : xs.length = n * sz := h.1
  exact ⟨by rw [h.cellAt (o + j) (by omega), List.getElem?_eq_getElem (by omega)]; rfl, h.frozenAt _⟩

/-- The cells of an array, of a link, out of a block that is known whole. -/
theorem alloc_kept (w : World) (o : Obj) : Kept (fun _ => True) w (w.alloc o) := (Kept.refl _ _).alloc o

/-- A variable of an array's type is made. -/
theorem own_form {w : World} {b e sz n : Nat} {v : Value} {xs : List Value} (h : w.ownsRow b e sz v n xs) : ∃ ao cap, v = .slice ao n cap ∧ n ≤ cap ∧ (ao = none → cap = 0) ∧ (0 < n → ∃ g, ao = some ⟨g, 0, none⟩) := by
  rcases h.2 with ⟨hv, h0⟩ | ⟨g, cap, cur, hv, _, hh, hc, _⟩
  · exact ⟨none, 0, by rw [hv, h0], by omega, fun _ => rfl, fun hp => by omega⟩
  · exact ⟨_, cap, hv, hc, by simp, fun _ => ⟨g, rfl⟩⟩
theorem kept_fresh {p : Nat → Prop} {a w : World} (h : Kept p a w) {ad : Addr} (hp : a.heap.size ≤ ad.block) (u : Value) : Kept p a (w.setCell ad u) :=
  ⟨h.os, h.tape, h.output, by simpa [World.setCell] using h.size, fun k hk hpk => (Below.heap_setCell _ _ _ _ (by omega)).trans (h.block k hk hpk)⟩
/-- What Read answers. -/
theorem uset_at {w : World} {X : Nat} {t : TypeId} {cs : Array Value} {fr : Nat × Nat} (h : w.heap[X]? = some (.cells cs t fr)) (k : Nat) (u : Value) : (w.setCell ⟨X, k, none⟩ u).heap[X]? = some (.cells (cs.setIfInBounds k u) t fr) := by
  have hlt := lt_of_block h
  have h' : w.heap[X] = .cells cs t fr := by simpa [Array.getElem?_eq_getElem hlt] using h
  show (w.heap.modify X _)[X]? = _
  rw [Array.getElem?_eq_getElem (by simpa using hlt), Array.getElem_modify_self, h']
  rfl
theorem kept_set {w : World} {X : Nat} {v : Value} {i : Nat} : Kept (· ≠ X) w (w.setCell ⟨X, i, none⟩ v) := (Kept.refl _ _).setCell (by simp) _
theorem own_shape_u {w : World} {b e sz n : Nat} {v : Value} {xs : List Value} (h : w.ownsRow b e sz v n xs) : ∃ ao cap, v = .slice ao n cap := by
  rcases h.2 with ⟨e, h0⟩ | ⟨g, cap, _, e, _⟩
  · exact ⟨_, _, h0 ▸ e⟩
  · exact ⟨_, _, e⟩
/-- How things lie in n cells each. -/
structure Shp (α : Type) where
  n : Nat
  cell : α → List Value
  len : ∀ x, (cell x).length = n
  one : ∀ x, ∀ u ∈ cell x, u.oneCell' = true
/-- What the walk asks of a type of n cells, and of its slices'. -/
structure ElT (T e : TypeId) (n bytes : Nat) (z : Value) : Prop where
  slice : Try.prog.underlying T = some (.slice e)
  info : (Try.prog.info? e).map (fun i => (i.zero, i.size, i.bytes)) = some (some z, n, bytes)
  zc : z.cells.size = n
  pos : 0 < n
  small : bytes ≤ 200
section
variable {α : Type} {S : Shp α}
def Shp.row (S : Shp α) (xs : List α) : List Value := xs.flatMap S.cell
theorem row_cons (x : α) (xs : List α) : S.row (x :: xs) = S.cell x ++ S.row xs := rfl
theorem row_length (xs : List α) : (S.row xs).length = xs.length * S.n := by
  induction xs with
  | nil => simp [Shp.row]
  | cons x xs ih => rw [row_cons, List.length_append, ih, S.len, List.length_cons, Nat.succ_mul, Nat.add_comm]
theorem row_append (xs ys : List α) : S.row (xs ++ ys) = S.row xs ++ S.row ys := by simp [Shp.row]
theorem row_single (x : α) : S.row [x] = S.cell x := by simp [Shp.row]
theorem row_get : ∀ (xs : List α) (k : Nat) (h : k < xs.length) (j : Nat), j < S.n → (S.row xs)[k * S.n + j]? = (S.cell xs[k])[j]?
  | x :: xs, 0, _, j, hj => by
    rw [row_cons, Nat.zero_mul, Nat.zero_add, List.getElem?_append_left (by rw [S.len]; exact hj)]
    rfl
  | x :: xs, k + 1, h, j, hj => by
    have := row_get xs k (by simpa using h) j hj
    rw [row_cons, show (k + 1) * S.n + j = S.n + (k * S.n + j) by rw [Nat.succ_mul]; omega, List.getElem?_append_right (by rw [S.len]; omega), S.len, Nat.add_sub_cancel_left, this]
    rfl
theorem row_one (xs : List α) : ∀ u ∈ S.row xs, u.oneCell' = true := by
  intro u hu
  obtain ⟨x, _, hm⟩ := List.mem_flatMap.1 hu
  exact S.one x u hm
/-- Things that are looked at. -/
structure Vw (S : Shp α) (w : World) (ao : Option Addr) (xs : List α) : Prop where
  row : 0 < xs.length → ∃ b off, ao = some ⟨b, off, none⟩ ∧ b < w.heap.size ∧ ∀ i (h : i < xs.length), w.rangeAt b (off + i * S.n) (S.cell xs[i])
theorem Vw.kept {p : Nat → Prop} {w w' : World} {ao : Option Addr} {xs : List α} (h : Vw S w ao xs) (k : Kept p w w') (hp : ∀ ad, ao = some ad → p ad.block) : Vw S w' ao xs := by
  refine ⟨fun h0 => ?_⟩
  obtain ⟨b, off, rfl, hb, hc⟩ := h.row h0
  exact ⟨b, off, rfl, Nat.lt_of_lt_of_le hb k.size, fun i hi => range_kept (hc i hi) k hb (hp _ rfl)⟩
theorem Vw.all {w w' : World} {ao : Option Addr} {xs : List α} (h : Vw S w ao xs) (k : Kept (fun _ => True) w w') : Vw S w' ao xs := h.kept k (fun _ _ => trivial)
theorem Vw.nil (w : World) (ao : Option Addr) : Vw S w ao [] := ⟨fun h => by simp at h⟩
/-- A row of one's own behind 'base'; e: its type. -/
def Ow (S : Shp α) (e : TypeId) (w : World) (base : Nat) (v : Value) (xs : List α) : Prop := w.ownsRow base e S.n v xs.length (S.row xs)
variable {e : TypeId} {w w' : World} {base : Nat} {v : Value} {xs : List α}
theorem Ow.nil (e : TypeId) (w : World) (base : Nat) : Ow S e w base (.slice none 0 0) [] := World.ownsRow_nil _ _ _ _
theorem Ow.shape (h : Ow S e w base v xs) : ∃ ao cap, v = .slice ao xs.length cap ∧ xs.length ≤ cap ∧ (0 < xs.length → ∃ g, ao = some ⟨g, 0, none⟩) ∧ (ao = none → cap = 0) := by
  rcases h.2 with ⟨hv, h0⟩ | ⟨g, cap, cur, hv, _, _, hc, _⟩
  · exact ⟨none, 0, by rw [hv, h0], by omega, fun hp => by omega, fun _ => rfl⟩
  · exact ⟨_, cap, hv, hc, fun _ => ⟨g, rfl⟩, by simp⟩
theorem Ow.kept {p : Nat → Prop} (h : Ow S e w base v xs) (hk : Kept p w w') (hp : ∀ k, v.ownBlock = some k → p k) : Ow S e w' base v xs := ownL_kept h hk hp
theorem Ow.all (h : Ow S e w base v xs) (hk : Kept (fun _ => True) w w') : Ow S e w' base v xs := h.kept hk (fun _ _ => trivial)
theorem Ow.ge (h : Ow S e w base v xs) {k : Nat} (hk : v.ownBlock = some k) : base ≤ k := (World.ownsRow.lt h k hk).1
theorem Ow.lt (h : Ow S e w base v xs) {k : Nat} (hk : v.ownBlock = some k) : k < w.heap.size := (World.ownsRow.lt h k hk).2
theorem Ow.low {b' : Nat} (h : Ow S e w base v xs) (hb : b' ≤ base) : Ow S e w b' v xs := World.ownsRow.mono h hb
theorem Ow.view {ao : Option Addr} {n cap : Nat} (h : Ow S e w base (.slice ao n cap) xs) : Vw S w ao xs := by
  refine ⟨fun h0 => ?_⟩
  obtain ⟨ao', cap', hv, _, hg, _⟩ := h.shape
  obtain ⟨g, hg⟩ := hg h0
  subst hg
  injection hv with e1 e2 e3
  subst e1 e2
  refine ⟨g, 0, rfl, h.lt rfl, fun i hi => ?_⟩
  intro j u hu
  have hj : j < S.n := by have := (List.getElem?_eq_some_iff.1 hu).1; rwa [S.len] at this
  have h2 : w.ownsRow base e S.n (.slice (some ⟨g, 0, none⟩) xs.length cap) xs.length (S.row xs) := h
  have hlt : i * S.n + j < xs.length * S.n := by
    have := Nat.mul_le_mul_right S.n (show i + 1 ≤ xs.length from hi)
    rw [Nat.succ_mul] at this
    omega
  rw [Nat.zero_add, h2.cellAt (i * S.n + j) hlt, row_get xs i hi j hj]
  exact hu
theorem append_one {T : TypeId} {bytes : Nat} {z : Value} (hT : ElT T e S.n bytes z) (w : World) (ty : TypeId) (base : Nat) (v : Value) (xs : List α) (hown : Ow S e w base v xs) (hb : base ≤ w.heap.size) (G : Nat) (x : α) (fr : Nat × Nat) (hG : w.heap[G]? = some (.cells (S.cell x).toArray e fr)) (hm : xs.length ≤ 100000000000) :
    ∃ ao' cap' w', (Builtin.append_ #[T, T] ty #[v, .slice (some ⟨G, 0, none⟩) 1 1]).run Try.prog w = .ok (.slice ao' (xs.length + 1) cap') w' ∧ Ow S e w' base (.slice ao' (xs.length + 1) cap') (xs ++ [x]) ∧ w.grownBy w' v.ownBlock ∧
      ((Value.slice ao' (xs.length + 1) cap').ownBlock = v.ownBlock ∨ (Value.slice ao' (xs.length + 1) cap').ownBlock = some w.heap.size) := by
  obtain ⟨i, hi, hz0, hz1, hz2⟩ := info_parts hT.info
  have hby : (xs.length + 1) * bytes ≤ 140737488355328 := by
    have h1 := Nat.mul_le_mul_left (xs.length + 1) hT.small
    have h2 := Nat.mul_le_mul_right 200 (show xs.length + 1 ≤ 100000000001 by omega)
    omega
  obtain ⟨v', w', hr, h2, h3, _, h5⟩ := run_append_own_at (P := Try.prog) w base T ty e i z S.n bytes hT.slice hi hz0 hz1 hz2 hT.zc hT.pos v xs.length (S.row xs) hown ⟨G, 0, none⟩ 1 1 (S.cell x) (by rw [S.len, Nat.one_mul]) (by
    have := World.news_of_block (w := w) hG
    simpa using this) (S.one x) (by unfold maxLen; omega) hby hb
  obtain ⟨ao', cap', rfl⟩ := own_shape_u h2
  refine ⟨ao', cap', w', hr, ?_, h3, h5⟩
  unfold Ow
  rw [row_append, row_single, List.length_append]
  exact h2
theorem wpList_append_one {T : TypeId} {bytes : Nat} {z : Value} {w : World} {ops : Array Oper} {rest : List Oper} {o : Oper} {a : Act} {Q : Exit → Act → World → Prop} (hT : ElT T e S.n bytes z) (hgd : o.guard = none) (sl y : Operand) (ho : o.op = .call { callee := .builtin .append, args := #[sl, y], argTypes := #[T, T] })
    (base : Nat) (v : Value) (xs : List α) (hs : a.eval sl = v) (hown : Ow S e w base v xs) (hb : base ≤ w.heap.size) (G : Nat) (hy : a.eval y = .slice (some ⟨G, 0, none⟩) 1 1) (x : α) (fr : Nat × Nat) (hG : w.heap[G]? = some (.cells (S.cell x).toArray e fr)) (hm : xs.length ≤ 100000000000) (M : Nat) (hM : xs.length + 1 = M)
    (h : ∀ ao' cap' w', Ow S e w' base (.slice ao' M cap') (xs ++ [x]) → w.grownBy w' v.ownBlock → ((Value.slice ao' M cap').ownBlock = v.ownBlock ∨ (Value.slice ao' M cap').ownBlock = some w.heap.size) → wpList Try.prog ops Q rest (a.put o.dst (.slice ao' M cap')) w') : wpList Try.prog ops Q (o :: rest) a w := by
  subst hM
  refine wpList_plain hgd fun K hK => ?_
  obtain ⟨ao', cap', w', hr, h2, h3, h4⟩ := append_one hT w o.type base v xs hown hb G x fr hG hm
  unfold Oper.wp execOp
  simp only [ho, resolve, invoke, builtin, Sem.run_bind, Sem.run_pure, Result.andThen_ok, List.map_toArray, List.map_cons, List.map_nil, hs, hy, hr]
  exact hK _ _ (h ao' cap' w' h2 h3 h4)
theorem step_append_one {T : TypeId} {bytes : Nat} {z : Value} {w : World} {ops : Array Oper} {o : Oper} {a : Act} {K : Act → World → Prop} {Q : Exit → Act → World → Prop} {E : Prop} (hT : ElT T e S.n bytes z) (hgd : o.guard = none) (sl y : Operand) (ho : o.op = .call { callee := .builtin .append, args := #[sl, y], argTypes := #[T, T] })
    (base : Nat) (v : Value) (xs : List α) (hs : a.eval sl = v) (hown : Ow S e w base v xs) (hb : base ≤ w.heap.size) (G : Nat) (hy : a.eval y = .slice (some ⟨G, 0, none⟩) 1 1) (x : α) (fr : Nat × Nat) (hG : w.heap[G]? = some (.cells (S.cell x).toArray e fr)) (hm : xs.length ≤ 100000000000) (M : Nat) (hM : xs.length + 1 = M)
    (h : ∀ ao' cap' w', Ow S e w' base (.slice ao' M cap') (xs ++ [x]) → w.grownBy w' v.ownBlock → ((Value.slice ao' M cap').ownBlock = v.ownBlock ∨ (Value.slice ao' M cap').ownBlock = some w.heap.size) → K (a.put o.dst (.slice ao' M cap')) w') : if Region.wanted o (yielded ops a.tmps) = true then Oper.wp Try.prog o a w K Q else E := by
  subst hM
  have hw : Region.wanted o (yielded ops a.tmps) = true := by simp [Region.wanted, hgd]
  rw [if_pos hw]
  obtain ⟨ao', cap', w', hr, h2, h3, h4⟩ := append_one hT w o.type base v xs hown hb G x fr hG hm
  unfold Oper.wp execOp
  simp only [ho, resolve, invoke, builtin, Sem.run_bind, Sem.run_pure, Result.andThen_ok, List.map_toArray, List.map_cons, List.map_nil, hs, hy, hr]
  exact h _ _ _ h2 h3 h4
end

/-- A block of cells. -/
def Bk (w : World) (X : Nat) (t : TypeId) (cs : List Value) : Prop := w.heap[X]? = some (.cells cs.toArray t (0, 0))
section
variable {w w' : World} {X : Nat} {t : TypeId} {cs : List Value}
theorem Bk.lt (h : Bk w X t cs) : X < w.heap.size := lt_of_block h
theorem Bk.kept {p : Nat → Prop} (h : Bk w X t cs) (k : Kept p w w') (hp : p X) : Bk w' X t cs := (k.block X h.lt hp).trans h
theorem Bk.free (h : Bk w X t cs) (i : Nat) : w.frozen? ⟨X, i, none⟩ = false := by
  unfold Bk at h
  simp [World.frozen?, h]
theorem Bk.set (h : Bk w X t cs) (k : Nat) (u : Value) : Bk (w.setCell ⟨X, k, none⟩ u) X t (cs.set k u) := by
  have := uset_at h k u
  unfold Bk
  rw [this]
  simp
theorem Bk.six {a b c d e f : Value} (h : Bk w X t [a, b, c, d, e, f]) : w.cell? ⟨X, 0, none⟩ = some a ∧ w.cell? ⟨X, 1, none⟩ = some b ∧ w.cell? ⟨X, 2, none⟩ = some c ∧ w.cell? ⟨X, 3, none⟩ = some d ∧ w.cell? ⟨X, 4, none⟩ = some e ∧ w.cell? ⟨X, 5, none⟩ = some f :=
  ⟨cell_of_row _ _ 0 _ _ _ h, cell_of_row _ _ 1 _ _ _ h, cell_of_row _ _ 2 _ _ _ h, cell_of_row _ _ 3 _ _ _ h, cell_of_row _ _ 4 _ _ _ h, cell_of_row _ _ 5 _ _ _ h⟩
end
theorem alloc_old {w : World} {X : Nat} {o : Obj} (n : Obj) (h : w.heap[X]? = some o) : (w.alloc n).heap[X]? = some o := by
  have hlt : X < w.heap.size := by
    rcases Nat.lt_or_ge X w.heap.size with q | q
    · exact q
    · rw [Array.getElem?_eq_none q] at h; cases h
  exact ((Kept.refl (fun _ => True) w).alloc n).block X hlt trivial |>.trans h
theorem Ow.ne {α : Type} {S : Shp α} {e : TypeId} {w : World} {base : Nat} {v : Value} {xs : List α} (h : Ow S e w base v xs) {B : Nat} {cs : Array Value} {t : TypeId} {fr : Nat × Nat} (hB : w.heap[B]? = some (.cells cs t fr)) (ht : t ≠ e) : v.ownBlock ≠ some B := by
  intro q
  rcases h.2 with ⟨e1, _⟩ | ⟨g, cap, cur, e1, _, hg, _⟩
  · rw [e1] at q; cases q
  · rw [e1] at q
    cases q
    rw [hg] at hB
    injection hB with hB
    injection hB with _ h2
    exact ht h2.symm
/-- Numbers as elements of a map. -/
def intDu (n : Int) : DataW Unit := .lit (.int .i64 n)
def intRu : Value → Option (DataW Unit × List MemPlace)
  | .int .i64 n => some (intDu n, [])
  | _ => none
theorem intRu_inv (v : Value) (z : DataW Unit × List MemPlace) (h : intRu v = some z) : ∃ x : Int, v = .int .i64 x ∧ z = (intDu x, []) := by
  unfold intRu at h
  split at h
  · exact ⟨_, rfl, by simpa using h.symm⟩
  · cases h
def codeI : Cde Int := ⟨Value.int .i64, intDu, intRu, fun _ => rfl, intRu_inv, fun x y h => by simpa [intDu] using h⟩
section
variable {α : Type} {C : Cde α} {w w' : World} {b n : Nat} {f : Int → Option α}
def cutI (f : Int → Option α) (x : Int) : Int → Option α := fun y => if y = x then none else f y
theorem HoldsI.cut {D : DataW Unit} (h : HoldsI C D f) (x : Int) : HoldsI C (D.del (.int .i64 x)) (cutI f x) := by
  refine ⟨fun y e => ?_, fun y v e d => ?_⟩
  · unfold cutI at e
    split at e
    · rename_i he
      subst he
      exact Maps.has_del_same
    · rename_i hne
      rw [Maps.has_del_other (numlit_ne hne)]
      exact h.no y e
  · unfold cutI at e
    split at e
    · cases e
    · rename_i hne
      rw [Maps.atKey_del_other (numlit_ne hne)]
      exact h.yes y v e d
theorem MpI.drop (h : MpI C w b n f) {t e : TypeId} (ht : Try.prog.underlying t = some (.map 3 e)) {x : Int} (hx : Fits x) (ty : TypeId) :
    ∃ w', (Builtin.delete_ #[t, 3] ty #[.map (some b), .int .i64 x]).run Try.prog w = .ok (.tuple #[]) w' ∧ MpI C w' b n (cutI f x) ∧ Kept (· ≠ b) w w' ∧ w'.heap.size = w.heap.size := by
  obtain ⟨D, ho, hh⟩ := h
  obtain ⟨w', hr, h1, h2⟩ := ho.drop num_key ht (num_of hx) ty
  exact ⟨w', hr, ⟨_, h1, hh.cut x⟩, turned_kept h2, turned_same h2⟩
end
/-- The cells of a row that is looked at. -/
def Fl (w : World) (v : Value) (n sz : Nat) (cs : List Value) : Prop :=
  ∃ ao cap, v = .slice ao n cap ∧ cs.length = n * sz ∧ n ≤ 281474976710656 ∧ (ao = none → cap = 0) ∧ (0 < n → ∃ b off, ao = some ⟨b, off, none⟩ ∧ b < w.heap.size ∧ ∀ j u, cs[j]? = some u → w.cell? ⟨b, off + j, none⟩ = some u)
theorem Fl.all {w w' : World} {v : Value} {n sz : Nat} {cs : List Value} (h : Fl w v n sz cs) (k : Kept (fun _ => True) w w') : Fl w' v n sz cs := by
  obtain ⟨ao, cap, e, hc, hl, hn, h⟩ := h
  refine ⟨ao, cap, e, hc, hl, hn, fun h0 => ?_⟩
  obtain ⟨b, off, e, hb, h⟩ := h h0
  exact ⟨b, off, e, Nat.lt_of_lt_of_le hb k.size, fun j u hu => (kept_cell k hb trivial).trans (h j u hu)⟩
theorem append_flat {T e sz by' : Nat} {z : Value} (hT : Try.prog.underlying T = some (.slice e)) (hI : (Try.prog.info? e).map (fun i => (i.zero, i.size, i.bytes)) = some (some z, sz, by')) (hz : z.cells.size = sz) (hsz : 0 < sz) (hby : by' ≤ 128)
    (w : World) (ty : TypeId) (base : Nat) (v : Value) (h : w.ownsRow base e sz v 0 []) (hb : base ≤ w.heap.size) (y : Value) {n : Nat} {cs : List Value} (hy : Fl w y n sz cs) (h1 : ∀ u ∈ cs, u.oneCell' = true) (hm : n ≤ 1100000) :
    ∃ ao' cap' w', (Builtin.append_ #[T, T] ty #[v, y]).run Try.prog w = .ok (.slice ao' n cap') w' ∧ w'.ownsRow base e sz (.slice ao' n cap') n cs ∧ w.grownBy w' v.ownBlock := by
  obtain ⟨i, hi, hz0, hz1, hz2⟩ := info_parts hI
  obtain ⟨ao, cap, rfl, hcl, _, hn, hc⟩ := hy
  cases ao with
  | none =>
    have h0 : n = 0 := by
      rcases Nat.eq_zero_or_pos n with h | h
      · exact h
      · obtain ⟨_, _, e, _⟩ := hc h; cases e
    subst h0
    obtain rfl : cs = [] := List.eq_nil_of_length_eq_zero (by omega)
    have hc0 := hn rfl
    subst hc0
    have hrun := run_append_owned_none (P := Try.prog) (w := w) base T ty e i sz hT hi v 0 [] h
    obtain ⟨ao', cap', rfl, _⟩ := own_form h
    exact ⟨ao', cap', w, hrun, h, ⟨rfl, rfl, rfl, Nat.le_refl _, fun _ _ _ => rfl⟩⟩
  | some ad =>
    have hsrc : ∀ j u, cs[j]? = some u → w.cell? (ad.add j) = some u := by
      rcases Nat.eq_zero_or_pos n with h0 | h0
      · obtain rfl : cs = [] := List.eq_nil_of_length_eq_zero (by rw [hcl, h0]; simp)
        intro j u hu
        simp at hu
      · obtain ⟨b, off, e, _, hc'⟩ := hc h0
        cases e
        intro j u hu
        rw [WideShapes.add_plain]
        exact hc' j u hu
    have hbb : (0 + n) * by' ≤ 140737488355328 := by
      rw [Nat.zero_add]
      exact Nat.le_trans (Nat.mul_le_mul hm hby) (by decide)
    obtain ⟨v', w', hr, h2, h3, _, h5⟩ := run_append_own_at (P := Try.prog) w base T ty e i z sz by' hT hi hz0 hz1 hz2 hz hsz v 0 [] h ad n cap cs hcl hsrc h1 (by unfold maxLen; omega) hbb hb
    rw [Nat.zero_add, List.nil_append] at h2
    obtain ⟨ao', cap', rfl, _⟩ := own_form h2
    exact ⟨ao', cap', w', hr, h2, h3⟩

theorem wpList_append_flat {T e sz by' : Nat} {z : Value} {w : World} {ops : Array Oper} {rest : List Oper} {o : Oper} {a : Act} {Q : Exit → Act → World → Prop} (hT : Try.prog.underlying T = some (.slice e)) (hI : (Try.prog.info? e).map (fun i => (i.zero, i.size, i.bytes)) = some (some z, sz, by')) (hz : z.cells.size = sz) (hsz : 0 < sz) (hby : by' ≤ 128)
    (hgd : o.guard = none) (sl y : Operand) (ho : o.op = .call { callee := .builtin .append, args := #[sl, y], argTypes := #[T, T] })
    (base : Nat) (v : Value) (hs : a.eval sl = v) (h : w.ownsRow base e sz v 0 []) (hb : base ≤ w.heap.size) (yv : Value) (hy : a.eval y = yv) {n : Nat} {cs : List Value} (hF : Fl w yv n sz cs) (h1 : ∀ u ∈ cs, u.oneCell' = true) (hm : n ≤ 1100000)
    (hC : ∀ ao' cap' w', w'.ownsRow base e sz (.slice ao' n cap') n cs → w.grownBy w' v.ownBlock → wpList Try.prog ops Q rest (a.put o.dst (.slice ao' n cap')) w') : wpList Try.prog ops Q (o :: rest) a w := by
  refine wpList_plain hgd fun K hK => ?_
  obtain ⟨ao', cap', w', hr, h2, h3⟩ := append_flat hT hI hz hsz hby w o.type base v h hb yv hF h1 hm
  unfold Oper.wp execOp
  simp only [ho, resolve, invoke, builtin, Sem.run_bind, Sem.run_pure, Result.andThen_ok, List.map_toArray, List.map_cons, List.map_nil, hs, hy, hr]
  exact hK _ _ (hC ao' cap' w' h2 h3)

end Go.Proofs.Ytllopkebamlgeaa
