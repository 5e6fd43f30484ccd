/-
  Slices of texts in memory that are appended to.
-/
import Derived.Test.YtbooeabmpdpgpaaSB
import Derived.Deep.RegionLaw
namespace Go.Proofs.Ytbooeabmpdpgpaa
open Go.RowKit

/-- Texts as cells. -/
def srow (ss : List (List UInt8)) : List Value := ss.map fun s => .string ⟨s.toArray⟩
theorem srow_length (ss : List (List UInt8)) : (srow ss).length = ss.length := by simp [srow]
theorem srow_append (a b : List (List UInt8)) : srow (a ++ b) = srow a ++ srow b := by simp [srow]
theorem srow_get (ss : List (List UInt8)) (k : Nat) (h : k < ss.length) : (srow ss)[k]? = some (.string ⟨(ss[k]).toArray⟩) := by simp [srow, h]
theorem srow_one (ss : List (List UInt8)) : ∀ u ∈ srow ss, u.oneCell' = true := by
  intro u hu
  obtain ⟨_, _, rfl⟩ := List.mem_map.1 hu
  rfl

theorem Try.infoText : (Try.prog.info? 9).map (fun i => (i.zero, i.size, i.bytes)) = some (some (.string ⟨#[]⟩), 1, 16) := by kernel_rfl
theorem Try.elemText : Try.prog.elem 60 = 9 := by kernel_rfl
theorem size_text (w0 : World) : (sizeOf (Try.prog.elem 60)).run Try.prog w0 = .ok 1 w0 := by
  obtain ⟨i, hi, hz0, hz1, hz2⟩ := info_parts Try.infoText
  rw [Try.elemText]
  simp [sizeOf, typeInfo, hi, hz1]

/-- A slice of the texts ss, in a row of its own behind 'base'. -/
def Txs (w : World) (base : Nat) (v : Value) (ss : List (List UInt8)) : Prop := w.ownsRow base 9 1 v ss.length (srow ss)
theorem Txs.nil (w : World) (base : Nat) : Txs w base (.slice none 0 0) [] := World.ownsRow_nil _ _ _ _
theorem Txs.kept {p : Nat → Prop} {w w' : World} {base : Nat} {v : Value} {ss : List (List UInt8)} (h : Txs w base v ss) (hk : Kept p w w') (hp : ∀ k, v.ownBlock = some k → p k) : Txs w' base v ss := by
  refine ⟨h.1, ?_⟩
  rcases h.2 with h0 | ⟨g, cap, cur, rfl, hb, hh, rest⟩
  · exact .inl h0
  · exact .inr ⟨g, cap, cur, rfl, hb, (hk.block g (lt_of_block hh) (hp g rfl)).trans hh, rest⟩
theorem Txs.shape {w : World} {base : Nat} {v : Value} {ss : List (List UInt8)} (h : Txs w base v ss) : ∃ ao cap, v = .slice ao ss.length cap ∧ ss.length ≤ cap ∧ (0 < ss.length → ∃ g, ao = some ⟨g, 0, none⟩) := by
  rcases h.2 with ⟨hv, h0⟩ | ⟨g, cap, cur, hv, _, hh, hc, _⟩
  · exact ⟨none, 0, by rw [hv, h0], by omega, fun hp => by omega⟩
  · exact ⟨_, cap, hv, hc, fun _ => ⟨g, rfl⟩⟩
theorem Txs.cell {w : World} {base g n cap : Nat} {ss : List (List UInt8)} (h : Txs w base (.slice (some ⟨g, 0, none⟩) n cap) ss) (k : Nat) (hk : k < ss.length) : w.cell? ⟨g, k, none⟩ = some (.string ⟨(ss[k]).toArray⟩) := by
  obtain ⟨ao, cap', e, _, _⟩ := h.shape
  injection e with e1 e2 e3
  subst e2
  have h' : w.ownsRow base 9 1 (.slice (some ⟨g, 0, none⟩) ss.length cap) ss.length (srow ss) := h
  exact (h'.cellAt k (by omega)).trans (srow_get ss k hk)

theorem own_shape_any {w : World} {b e sz n : Nat} {v : Value} {xs : List Value} (h : w.ownsRow b e sz v n xs) : ∃ ao cap, v = .slice ao n cap := by
  rcases h.2 with ⟨e, rfl⟩ | ⟨g, cap, _, e, _⟩
  · exact ⟨_, _, e⟩
  · exact ⟨_, _, e⟩

/-- An append of one text that lies in a block by itself. -/
theorem append_text (w : World) (ty : TypeId) (base : Nat) (v : Value) (ss : List (List UInt8)) (h : Txs w base v ss) (hb : base ≤ w.heap.size) (G : Nat) (s : List UInt8) (fr : Nat × Nat) (hG : w.heap[G]? = some (.cells #[.string ⟨s.toArray⟩] 9 fr)) (hm : ss.length ≤ 1099511627776) :
    ∃ ao' cap' w', (Builtin.append_ #[60, 60] ty #[v, .slice (some ⟨G, 0, none⟩) 1 1]).run Try.prog w = .ok (.slice ao' (ss.length + 1) cap') w' ∧ Txs w' base (.slice ao' (ss.length + 1) cap') (ss ++ [s]) ∧ w.grownBy w' v.ownBlock ∧
      ((Value.slice ao' (ss.length + 1) cap').ownBlock = v.ownBlock ∨ (Value.slice ao' (ss.length + 1) cap').ownBlock = some w.heap.size) := by
  obtain ⟨i, hi, hz0, hz1, hz2⟩ := info_parts Try.infoText
  obtain ⟨v', w', hr, h2, h3, _, h5⟩ := run_append_own_at (P := Try.prog) w base 60 ty 9 i (.string ⟨#[]⟩) 1 16 Try.underlying60 hi hz0 hz1 hz2 rfl (by decide) v ss.length (srow ss) h ⟨G, 0, none⟩ 1 1 (srow [s]) (by simp [srow]) (World.news_of_block (w := w) hG) (srow_one [s]) (by unfold maxLen; omega) (by omega) hb
  obtain ⟨ao', cap', rfl⟩ := own_shape_any h2
  refine ⟨ao', cap', w', hr, ?_, h3, h5⟩
  unfold Txs
  rw [srow_append, List.length_append]
  exact h2

theorem wpList_append_text {w : World} {ops : Array Oper} {rest : List Oper} {o : Oper} {a : Act} {Q : Exit → Act → World → Prop} (hgd : o.guard = none) (sl y : Operand) (ho : o.op = .call { callee := .builtin .append, args := #[sl, y], argTypes := #[60, 60] })
    (base : Nat) (v : Value) (ss : List (List UInt8)) (hs : a.eval sl = v) (h : Txs w base v ss) (hb : base ≤ w.heap.size) (G : Nat) (hy : a.eval y = .slice (some ⟨G, 0, none⟩) 1 1) (s : List UInt8) (fr : Nat × Nat) (hG : w.heap[G]? = some (.cells #[.string ⟨s.toArray⟩] 9 fr)) (hm : ss.length ≤ 1099511627776)
    (hK : ∀ ao' cap' w', Txs w' base (.slice ao' (ss.length + 1) cap') (ss ++ [s]) → w.grownBy w' v.ownBlock → ((Value.slice ao' (ss.length + 1) cap').ownBlock = v.ownBlock ∨ (Value.slice ao' (ss.length + 1) cap').ownBlock = some w.heap.size) → wpList Try.prog ops Q rest (a.put o.dst (.slice ao' (ss.length + 1) cap')) w') : wpList Try.prog ops Q (o :: rest) a w := by
  refine wpList_plain hgd fun K hK' => ?_
  obtain ⟨ao', cap', w', hr, h2, h3, h4⟩ := append_text w o.type base v ss h hb G s fr hG hm
  unfold Oper.wp execOp
  simp only [ho, resolve, invoke, builtin, Sem.run_bind, Sem.run_pure, Result.andThen_ok, List.map_toArray, List.map_cons, List.map_nil, hs, hy, hr]
  exact hK' _ _ (hK ao' cap' w' h2 h3 h4)

theorem step_append_text {w : World} {ops : Array Oper} {o : Oper} {a : Act} {K : Act → World → Prop} {Q : Exit → Act → World → Prop} {E : Prop} (hgd : o.guard = none) (sl y : Operand) (ho : o.op = .call { callee := .builtin .append, args := #[sl, y], argTypes := #[60, 60] })
    (base : Nat) (v : Value) (ss : List (List UInt8)) (hs : a.eval sl = v) (h : Txs w base v ss) (hb : base ≤ w.heap.size) (G : Nat) (hy : a.eval y = .slice (some ⟨G, 0, none⟩) 1 1) (s : List UInt8) (fr : Nat × Nat) (hG : w.heap[G]? = some (.cells #[.string ⟨s.toArray⟩] 9 fr)) (hm : ss.length ≤ 1099511627776)
    (hK : ∀ ao' cap' w', Txs w' base (.slice ao' (ss.length + 1) cap') (ss ++ [s]) → w.grownBy w' v.ownBlock → ((Value.slice ao' (ss.length + 1) cap').ownBlock = v.ownBlock ∨ (Value.slice ao' (ss.length + 1) cap').ownBlock = some w.heap.size) → K (a.put o.dst (.slice ao' (ss.length + 1) cap')) w') : if Region.wanted o (yielded ops a.tmps) = true then Oper.wp Try.prog o a w K Q else E := by
  have hw : Region.wanted o (yielded ops a.tmps) = true := by simp [Region.wanted, hgd]
  rw [if_pos hw]
  obtain ⟨ao', cap', w', hr, h2, h3, h4⟩ := append_text w o.type base v ss h hb G s fr hG hm
  unfold Oper.wp execOp
  simp only [ho, resolve, invoke, builtin, Sem.run_bind, Sem.run_pure, Result.andThen_ok, List.map_toArray, List.map_cons, List.map_nil, hs, hy, hr]
  exact hK ao' cap' w' h2 h3 h4

end Go.Proofs.Ytbooeabmpdpgpaa

namespace Go.Proofs.Ytbooeabmpdpgpaa
open Go.RowKit

/-- An append of one element's cells that lie in a block by themselves. -/
theorem append_cells {T e sz by' : Nat} {z : Value} (hT : Try.prog.underlying T = some (.slice e)) (hI : (Try.prog.info? e).map (fun i => (i.zero, i.size, i.bytes)) = some (some z, sz, by')) (hz : z.cells.size = sz) (hsz : 0 < sz) (hby : by' ≤ 64)
    (w : World) (ty : TypeId) (base : Nat) (v : Value) (n : Nat) (xs : List Value) (hown : w.ownsRow base e sz v n xs) (hb : base ≤ w.heap.size) (G : Nat) (news : List Value) (hnl : news.length = sz) (hone : ∀ u ∈ news, u.oneCell' = true) (fr : Nat × Nat) (hG : w.heap[G]? = some (.cells news.toArray e fr)) (hm : n ≤ 10000) :
    ∃ ao' cap' w', (Builtin.append_ #[T, T] ty #[v, .slice (some ⟨G, 0, none⟩) 1 1]).run Try.prog w = .ok (.slice ao' (n + 1) cap') w' ∧ w'.ownsRow base e sz (.slice ao' (n + 1) cap') (n + 1) (xs ++ news) ∧ w.grownBy w' v.ownBlock ∧
      ((Value.slice ao' (n + 1) cap').ownBlock = v.ownBlock ∨ (Value.slice ao' (n + 1) cap').ownBlock = some w.heap.size) := by
  obtain ⟨i, hi, hz0, hz1, hz2⟩ := info_parts hI
  obtain ⟨v', w', hr, h2, h3, _, h5⟩ := run_append_own_at (P := Try.prog) w base T ty e i z sz by' hT hi hz0 hz1 hz2 hz hsz v n xs hown ⟨G, 0, none⟩ 1 1 news (by omega) (World.news_of_block (w := w) hG) hone (by unfold maxLen; omega) (Nat.le_trans (Nat.mul_le_mul (by omega : n + 1 ≤ 10001) hby) (by decide)) hb
  obtain ⟨ao', cap', rfl⟩ := own_shape_any h2
  exact ⟨ao', cap', w', hr, h2, h3, h5⟩
theorem wpList_append_cells {T e sz by' : Nat} {z : Value} {w : World} {ops : Array Oper} {rest : List Oper} {o : Oper} {a : Act} {Q : Exit → Act → World → Prop} (hT : Try.prog.underlying T = some (.slice e)) (hI : (Try.prog.info? e).map (fun i => (i.zero, i.size, i.bytes)) = some (some z, sz, by')) (hz : z.cells.size = sz) (hsz : 0 < sz) (hby : by' ≤ 64)
    (hgd : o.guard = none) (sl y : Operand) (ho : o.op = .call { callee := .builtin .append, args := #[sl, y], argTypes := #[T, T] })
    (base : Nat) (v : Value) (n : Nat) (xs : List Value) (hs : a.eval sl = v) (hown : w.ownsRow base e sz v n xs) (hb : base ≤ w.heap.size) (G : Nat) (hy : a.eval y = .slice (some ⟨G, 0, none⟩) 1 1) (news : List Value) (hnl : news.length = sz) (hone : ∀ u ∈ news, u.oneCell' = true) (fr : Nat × Nat) (hG : w.heap[G]? = some (.cells news.toArray e fr)) (hm : n ≤ 10000)
    (h : ∀ ao' cap' w', w'.ownsRow base e sz (.slice ao' (n + 1) cap') (n + 1) (xs ++ news) → w.grownBy w' v.ownBlock → ((Value.slice ao' (n + 1) cap').ownBlock = v.ownBlock ∨ (Value.slice ao' (n + 1) cap').ownBlock = some w.heap.size) → wpList Try.prog ops Q rest (a.put o.dst (.slice ao' (n + 1) cap')) w') : wpList Try.prog ops Q (o :: rest) a w := by
  refine wpList_plain hgd fun K hK => ?_
  obtain ⟨ao', cap', w', hr, h2, h3, h4⟩ := append_cells hT hI hz hsz hby w o.type base v n xs hown hb G news hnl hone fr hG hm
  unfold Oper.wp execOp
  simp only [ho, resolve, invoke, builtin, Sem.run_bind, Sem.run_pure, Result.andThen_ok, List.map_toArray, List.map_cons, List.map_nil, hs, hy, hr]
  exact hK _ _ (h ao' cap' w' h2 h3 h4)
theorem step_append_cells {T e sz by' : Nat} {z : Value} {w : World} {ops : Array Oper} {o : Oper} {a : Act} {K : Act → World → Prop} {Q : Exit → Act → World → Prop} {E : Prop} (hT : Try.prog.underlying T = some (.slice e)) (hI : (Try.prog.info? e).map (fun i => (i.zero, i.size, i.bytes)) = some (some z, sz, by')) (hz : z.cells.size = sz) (hsz : 0 < sz) (hby : by' ≤ 64)
    (hgd : o.guard = none) (sl y : Operand) (ho : o.op = .call { callee := .builtin .append, args := #[sl, y], argTypes := #[T, T] })
    (base : Nat) (v : Value) (n : Nat) (xs : List Value) (hs : a.eval sl = v) (hown : w.ownsRow base e sz v n xs) (hb : base ≤ w.heap.size) (G : Nat) (hy : a.eval y = .slice (some ⟨G, 0, none⟩) 1 1) (news : List Value) (hnl : news.length = sz) (hone : ∀ u ∈ news, u.oneCell' = true) (fr : Nat × Nat) (hG : w.heap[G]? = some (.cells news.toArray e fr)) (hm : n ≤ 10000)
    (h : ∀ ao' cap' w', w'.ownsRow base e sz (.slice ao' (n + 1) cap') (n + 1) (xs ++ news) → w.grownBy w' v.ownBlock → ((Value.slice ao' (n + 1) cap').ownBlock = v.ownBlock ∨ (Value.slice ao' (n + 1) cap').ownBlock = some w.heap.size) → K (a.put o.dst (.slice ao' (n + 1) cap')) w') : if Region.wanted o (yielded ops a.tmps) = true then Oper.wp Try.prog o a w K Q else E := by
  have hw : Region.wanted o (yielded ops a.tmps) = true := by simp [Region.wanted, hgd]
  rw [if_pos hw]
  obtain ⟨ao', cap', w', hr, h2, h3, h4⟩ := append_cells hT hI hz hsz hby w o.type base v n xs hown hb G news hnl hone fr hG hm
  unfold Oper.wp execOp
  simp only [ho, resolve, invoke, builtin, Sem.run_bind, Sem.run_pure, Result.andThen_ok, List.map_toArray, List.map_cons, List.map_nil, hs, hy, hr]
  exact h ao' cap' w' h2 h3 h4

end Go.Proofs.Ytbooeabmpdpgpaa
