/-
  Rows of structs of n cells, whatever they are: rows of one's own, rows that are looked at, appends of one.
-/
import Derived.Test.YtbooeabmpdpgpaaZ1
import Derived.Deep.AppendLies
import Derived.Maps.AppendAt
namespace Go.Proofs.Ytbooeabmpdpgpaa
open Go.RowKit

theorem own_shape_u {w : World} {b e sz n : Nat} {v : Value} {xs : List Value} (h : w.ownsRow b e sz v n xs) : ∃ ao cap, v = .slice ao n cap := by
  rcases h.2 with ⟨e, h0⟩ | ⟨g, cap, _, e, _⟩
  · exact ⟨_, _, h0 ▸ e⟩
  · exact ⟨_, _, e⟩
/-- How things lie in n cells each. -/
structure Shp (α : Type) where
  n : Nat
  cell : α → List Value
  len : ∀ x, (cell x).length = n
  one : ∀ x, ∀ u ∈ cell x, u.oneCell' = true
/-- What the walk asks of a type of n cells, and of its slices'. -/
structure ElT (T e : TypeId) (n bytes : Nat) (z : Value) : Prop where
  slice : Try.prog.underlying T = some (.slice e)
  info : (Try.prog.info? e).map (fun i => (i.zero, i.size, i.bytes)) = some (some z, n, bytes)
  zc : z.cells.size = n
  pos : 0 < n
  small : bytes ≤ 200
section
variable {α : Type} {S : Shp α}
def Shp.row (S : Shp α) (xs : List α) : List Value := xs.flatMap S.cell
theorem row_cons (x : α) (xs : List α) : S.row (x :: xs) = S.cell x ++ S.row xs := rfl
theorem row_length (xs : List α) : (S.row xs).length = xs.length * S.n := by
  induction xs with
  | nil => simp [Shp.row]
  | cons x xs ih => rw [row_cons, List.length_append, ih, S.len, List.length_cons, Nat.succ_mul, Nat.add_comm]
theorem row_append (xs ys : List α) : S.row (xs ++ ys) = S.row xs ++ S.row ys := by simp [Shp.row]
theorem row_single (x : α) : S.row [x] = S.cell x := by simp [Shp.row]
theorem row_get : ∀ (xs : List α) (k : Nat) (h : k < xs.length) (j : Nat), j < S.n → (S.row xs)[k * S.n + j]? = (S.cell xs[k])[j]?
  | x :: xs, 0, _, j, hj => by
    rw [row_cons, Nat.zero_mul, Nat.zero_add, List.getElem?_append_left (by rw [S.len]; exact hj)]
    rfl
  | x :: xs, k + 1, h, j, hj => by
    have := row_get xs k (by simpa using h) j hj
    rw [row_cons, show (k + 1) * S.n + j = S.n + (k * S.n + j) by rw [Nat.succ_mul]; omega, List.getElem?_append_right (by rw [S.len]; omega), S.len, Nat.add_sub_cancel_left, this]
    rfl
theorem row_one (xs : List α) : ∀ u ∈ S.row xs, u.oneCell' = true := by
  intro u hu
  obtain ⟨x, _, hm⟩ := List.mem_flatMap.1 hu
  exact S.one x u hm
/-- Things that are looked at. -/
structure Vw (S : Shp α) (w : World) (ao : Option Addr) (xs : List α) : Prop where
  row : 0 < xs.length → ∃ b off, ao = some ⟨b, off, none⟩ ∧ b < w.heap.size ∧ ∀ i (h : i < xs.length), w.rangeAt b (off + i * S.n) (S.cell xs[i])
theorem Vw.kept {p : Nat → Prop} {w w' : World} {ao : Option Addr} {xs : List α} (h : Vw S w ao xs) (k : Kept p w w') (hp : ∀ ad, ao = some ad → p ad.block) : Vw S w' ao xs := by
  refine ⟨fun h0 => ?_⟩
  obtain ⟨b, off, rfl, hb, hc⟩ := h.row h0
  exact ⟨b, off, rfl, Nat.lt_of_lt_of_le hb k.size, fun i hi => range_kept (hc i hi) k hb (hp _ rfl)⟩
theorem Vw.all {w w' : World} {ao : Option Addr} {xs : List α} (h : Vw S w ao xs) (k : Kept (fun _ => True) w w') : Vw S w' ao xs := h.kept k (fun _ _ => trivial)
theorem Vw.nil (w : World) (ao : Option Addr) : Vw S w ao [] := ⟨fun h => by simp at h⟩
/-- A row of one's own behind 'base'; e: its type. -/
def Ow (S : Shp α) (e : TypeId) (w : World) (base : Nat) (v : Value) (xs : List α) : Prop := w.ownsRow base e S.n v xs.length (S.row xs)
variable {e : TypeId} {w w' : World} {base : Nat} {v : Value} {xs : List α}
theorem Ow.nil (e : TypeId) (w : World) (base : Nat) : Ow S e w base (.slice none 0 0) [] := World.ownsRow_nil _ _ _ _
theorem Ow.shape (h : Ow S e w base v xs) : ∃ ao cap, v = .slice ao xs.length cap ∧ xs.length ≤ cap ∧ (0 < xs.length → ∃ g, ao = some ⟨g, 0, none⟩) ∧ (ao = none → cap = 0) := by
  rcases h.2 with ⟨hv, h0⟩ | ⟨g, cap, cur, hv, _, _, hc, _⟩
  · exact ⟨none, 0, by rw [hv, h0], by omega, fun hp => by omega, fun _ => rfl⟩
  · exact ⟨_, cap, hv, hc, fun _ => ⟨g, rfl⟩, by simp⟩
theorem Ow.kept {p : Nat → Prop} (h : Ow S e w base v xs) (hk : Kept p w w') (hp : ∀ k, v.ownBlock = some k → p k) : Ow S e w' base v xs := ownL_kept h hk hp
theorem Ow.all (h : Ow S e w base v xs) (hk : Kept (fun _ => True) w w') : Ow S e w' base v xs := h.kept hk (fun _ _ => trivial)
theorem Ow.ge (h : Ow S e w base v xs) {k : Nat} (hk : v.ownBlock = some k) : base ≤ k := (World.ownsRow.lt h k hk).1
theorem Ow.lt (h : Ow S e w base v xs) {k : Nat} (hk : v.ownBlock = some k) : k < w.heap.size := (World.ownsRow.lt h k hk).2
theorem Ow.low {b' : Nat} (h : Ow S e w base v xs) (hb : b' ≤ base) : Ow S e w b' v xs := World.ownsRow.mono h hb
theorem Ow.view {ao : Option Addr} {n cap : Nat} (h : Ow S e w base (.slice ao n cap) xs) : Vw S w ao xs := by
  refine ⟨fun h0 => ?_⟩
  obtain ⟨ao', cap', hv, _, hg, _⟩ := h.shape
  obtain ⟨g, hg⟩ := hg h0
  subst hg
  injection hv with e1 e2 e3
  subst e1 e2
  refine ⟨g, 0, rfl, h.lt rfl, fun i hi => ?_⟩
  intro j u hu
  have hj : j < S.n := by have := (List.getElem?_eq_some_iff.1 hu).1; rwa [S.len] at this
  have h2 : w.ownsRow base e S.n (.slice (some ⟨g, 0, none⟩) xs.length cap) xs.length (S.row xs) := h
  have hlt : i * S.n + j < xs.length * S.n := by
    have := Nat.mul_le_mul_right S.n (show i + 1 ≤ xs.length from hi)
    rw [Nat.succ_mul] at this
    omega
  rw [Nat.zero_add, h2.cellAt (i * S.n + j) hlt, row_get xs i hi j hj]
  exact hu
theorem append_one {T : TypeId} {bytes : Nat} {z : Value} (hT : ElT T e S.n bytes z) (w : World) (ty : TypeId) (base : Nat) (v : Value) (xs : List α) (hown : Ow S e w base v xs) (hb : base ≤ w.heap.size) (G : Nat) (x : α) (fr : Nat × Nat) (hG : w.heap[G]? = some (.cells (S.cell x).toArray e fr)) (hm : xs.length ≤ 100000000000) :
    ∃ ao' cap' w', (Builtin.append_ #[T, T] ty #[v, .slice (some ⟨G, 0, none⟩) 1 1]).run Try.prog w = .ok (.slice ao' (xs.length + 1) cap') w' ∧ Ow S e w' base (.slice ao' (xs.length + 1) cap') (xs ++ [x]) ∧ w.grownBy w' v.ownBlock ∧
      ((Value.slice ao' (xs.length + 1) cap').ownBlock = v.ownBlock ∨ (Value.slice ao' (xs.length + 1) cap').ownBlock = some w.heap.size) := by
  obtain ⟨i, hi, hz0, hz1, hz2⟩ := info_parts hT.info
  have hby : (xs.length + 1) * bytes ≤ 140737488355328 := by
    have h1 := Nat.mul_le_mul_left (xs.length + 1) hT.small
    have h2 := Nat.mul_le_mul_right 200 (show xs.length + 1 ≤ 100000000001 by omega)
    omega
  obtain ⟨v', w', hr, h2, h3, _, h5⟩ := run_append_own_at (P := Try.prog) w base T ty e i z S.n bytes hT.slice hi hz0 hz1 hz2 hT.zc hT.pos v xs.length (S.row xs) hown ⟨G, 0, none⟩ 1 1 (S.cell x) (by rw [S.len, Nat.one_mul]) (by
    have := World.news_of_block (w := w) hG
    simpa using this) (S.one x) (by unfold maxLen; omega) hby hb
  obtain ⟨ao', cap', rfl⟩ := own_shape_u h2
  refine ⟨ao', cap', w', hr, ?_, h3, h5⟩
  unfold Ow
  rw [row_append, row_single, List.length_append]
  exact h2
theorem wpList_append_one {T : TypeId} {bytes : Nat} {z : Value} {w : World} {ops : Array Oper} {rest : List Oper} {o : Oper} {a : Act} {Q : Exit → Act → World → Prop} (hT : ElT T e S.n bytes z) (hgd : o.guard = none) (sl y : Operand) (ho : o.op = .call { callee := .builtin .append, args := #[sl, y], argTypes := #[T, T] })
    (base : Nat) (v : Value) (xs : List α) (hs : a.eval sl = v) (hown : Ow S e w base v xs) (hb : base ≤ w.heap.size) (G : Nat) (hy : a.eval y = .slice (some ⟨G, 0, none⟩) 1 1) (x : α) (fr : Nat × Nat) (hG : w.heap[G]? = some (.cells (S.cell x).toArray e fr)) (hm : xs.length ≤ 100000000000) (M : Nat) (hM : xs.length + 1 = M)
    (h : ∀ ao' cap' w', Ow S e w' base (.slice ao' M cap') (xs ++ [x]) → w.grownBy w' v.ownBlock → ((Value.slice ao' M cap').ownBlock = v.ownBlock ∨ (Value.slice ao' M cap').ownBlock = some w.heap.size) → wpList Try.prog ops Q rest (a.put o.dst (.slice ao' M cap')) w') : wpList Try.prog ops Q (o :: rest) a w := by
  subst hM
  refine wpList_plain hgd fun K hK => ?_
  obtain ⟨ao', cap', w', hr, h2, h3, h4⟩ := append_one hT w o.type base v xs hown hb G x fr hG hm
  unfold Oper.wp execOp
  simp only [ho, resolve, invoke, builtin, Sem.run_bind, Sem.run_pure, Result.andThen_ok, List.map_toArray, List.map_cons, List.map_nil, hs, hy, hr]
  exact hK _ _ (h ao' cap' w' h2 h3 h4)
theorem step_append_one {T : TypeId} {bytes : Nat} {z : Value} {w : World} {ops : Array Oper} {o : Oper} {a : Act} {K : Act → World → Prop} {Q : Exit → Act → World → Prop} {E : Prop} (hT : ElT T e S.n bytes z) (hgd : o.guard = none) (sl y : Operand) (ho : o.op = .call { callee := .builtin .append, args := #[sl, y], argTypes := #[T, T] })
    (base : Nat) (v : Value) (xs : List α) (hs : a.eval sl = v) (hown : Ow S e w base v xs) (hb : base ≤ w.heap.size) (G : Nat) (hy : a.eval y = .slice (some ⟨G, 0, none⟩) 1 1) (x : α) (fr : Nat × Nat) (hG : w.heap[G]? = some (.cells (S.cell x).toArray e fr)) (hm : xs.length ≤ 100000000000) (M : Nat) (hM : xs.length + 1 = M)
    (h : ∀ ao' cap' w', Ow S e w' base (.slice ao' M cap') (xs ++ [x]) → w.grownBy w' v.ownBlock → ((Value.slice ao' M cap').ownBlock = v.ownBlock ∨ (Value.slice ao' M cap').ownBlock = some w.heap.size) → K (a.put o.dst (.slice ao' M cap')) w') : if Region.wanted o (yielded ops a.tmps) = true then Oper.wp Try.prog o a w K Q else E := by
  subst hM
  have hw : Region.wanted o (yielded ops a.tmps) = true := by simp [Region.wanted, hgd]
  rw [if_pos hw]
  obtain ⟨ao', cap', w', hr, h2, h3, h4⟩ := append_one hT w o.type base v xs hown hb G x fr hG hm
  unfold Oper.wp execOp
  simp only [ho, resolve, invoke, builtin, Sem.run_bind, Sem.run_pure, Result.andThen_ok, List.map_toArray, List.map_cons, List.map_nil, hs, hy, hr]
  exact h _ _ _ h2 h3 h4
end

end Go.Proofs.Ytbooeabmpdpgpaa
