/-
  Appends of one element of any number of cells.
-/
import Derived.Test.YtflleblcliobdaaWStr
import Derived.Deep.RegionLaw
namespace Go.Proofs.Ytflleblcliobdaa
open Go.RowKit

/-- An append of one element's cells that lie in a block by themselves. -/
theorem append_cells {T e sz by' : Nat} {z : Value} (hT : Try.prog.underlying T = some (.slice e)) (hI : (Try.prog.info? e).map (fun i => (i.zero, i.size, i.bytes)) = some (some z, sz, by')) (hz : z.cells.size = sz) (hsz : 0 < sz) (hby : by' ≤ 64)
    (w : World) (ty : TypeId) (base : Nat) (v : Value) (n : Nat) (xs : List Value) (hown : w.ownsRow base e sz v n xs) (hb : base ≤ w.heap.size) (G : Nat) (news : List Value) (hnl : news.length = sz) (hone : ∀ u ∈ news, u.oneCell' = true) (fr : Nat × Nat) (hG : w.heap[G]? = some (.cells news.toArray e fr)) (hm : n ≤ 10000) :
    ∃ ao' cap' w', (Builtin.append_ #[T, T] ty #[v, .slice (some ⟨G, 0, none⟩) 1 1]).run Try.prog w = .ok (.slice ao' (n + 1) cap') w' ∧ w'.ownsRow base e sz (.slice ao' (n + 1) cap') (n + 1) (xs ++ news) ∧ w.grownBy w' v.ownBlock ∧
      ((Value.slice ao' (n + 1) cap').ownBlock = v.ownBlock ∨ (Value.slice ao' (n + 1) cap').ownBlock = some w.heap.size) := by
  obtain ⟨i, hi, hz0, hz1, hz2⟩ := info_parts hI
  obtain ⟨v', w', hr, h2, h3, _, h5⟩ := run_append_own_at (P := Try.prog) w base T ty e i z sz by' hT hi hz0 hz1 hz2 hz hsz v n xs hown ⟨G, 0, none⟩ 1 1 news (by omega) (World.news_of_block (w := w) hG) hone (by unfold maxLen; omega) (Nat.le_trans (Nat.mul_le_mul (by omega : n + 1 ≤ 10001) hby) (by decide)) hb
  obtain ⟨ao', cap', rfl⟩ := own_shape_any h2
  exact ⟨ao', cap', w', hr, h2, h3, h5⟩
theorem wpList_append_cells {T e sz by' : Nat} {z : Value} {w : World} {ops : Array Oper} {rest : List Oper} {o : Oper} {a : Act} {Q : Exit → Act → World → Prop} (hT : Try.prog.underlying T = some (.slice e)) (hI : (Try.prog.info? e).map (fun i => (i.zero, i.size, i.bytes)) = some (some z, sz, by')) (hz : z.cells.size = sz) (hsz : 0 < sz) (hby : by' ≤ 64)
    (hgd : o.guard = none) (sl y : Operand) (ho : o.op = .call { callee := .builtin .append, args := #[sl, y], argTypes := #[T, T] })
    (base : Nat) (v : Value) (n : Nat) (xs : List Value) (hs : a.eval sl = v) (hown : w.ownsRow base e sz v n xs) (hb : base ≤ w.heap.size) (G : Nat) (hy : a.eval y = .slice (some ⟨G, 0, none⟩) 1 1) (news : List Value) (hnl : news.length = sz) (hone : ∀ u ∈ news, u.oneCell' = true) (fr : Nat × Nat) (hG : w.heap[G]? = some (.cells news.toArray e fr)) (hm : n ≤ 10000)
    (h : ∀ ao' cap' w', w'.ownsRow base e sz (.slice ao' (n + 1) cap') (n + 1) (xs ++ news) → w.grownBy w' v.ownBlock → ((Value.slice ao' (n + 1) cap').ownBlock = v.ownBlock ∨ (Value.slice ao' (n + 1) cap').ownBlock = some w.heap.size) → wpList Try.prog ops Q rest (a.put o.dst (.slice ao' (n + 1) cap')) w') : wpList Try.prog ops Q (o :: rest) a w := by
  refine wpList_plain hgd fun K hK => ?_
  obtain ⟨ao', cap', w', hr, h2, h3, h4⟩ := append_cells hT hI hz hsz hby w o.type base v n xs hown hb G news hnl hone fr hG hm
  unfold Oper.wp execOp
  simp only [ho, resolve, invoke, builtin, Sem.run_bind, Sem.run_pure, Result.andThen_ok, List.map_toArray, List.map_cons, List.map_nil, hs, hy, hr]
  exact hK _ _ (h ao' cap' w' h2 h3 h4)
theorem step_append_cells {T e sz by' : Nat} {z : Value} {w : World} {ops : Array Oper} {o : Oper} {a : Act} {K : Act → World → Prop} {Q : Exit → Act → World → Prop} {E : Prop} (hT : Try.prog.underlying T = some (.slice e)) (hI : (Try.prog.info? e).map (fun i => (i.zero, i.size, i.bytes)) = some (some z, sz, by')) (hz : z.cells.size = sz) (hsz : 0 < sz) (hby : by' ≤ 64)
    (hgd : o.guard = none) (sl y : Operand) (ho : o.op = .call { callee := .builtin .append, args := #[sl, y], argTypes := #[T, T] })
    (base : Nat) (v : Value) (n : Nat) (xs : List Value) (hs : a.eval sl = v) (hown : w.ownsRow base e sz v n xs) (hb : base ≤ w.heap.size) (G : Nat) (hy : a.eval y = .slice (some ⟨G, 0, none⟩) 1 1) (news : List Value) (hnl : news.length = sz) (hone : ∀ u ∈ news, u.oneCell' = true) (fr : Nat × Nat) (hG : w.heap[G]? = some (.cells news.toArray e fr)) (hm : n ≤ 10000)
    (h : ∀ ao' cap' w', w'.ownsRow base e sz (.slice ao' (n + 1) cap') (n + 1) (xs ++ news) → w.grownBy w' v.ownBlock → ((Value.slice ao' (n + 1) cap').ownBlock = v.ownBlock ∨ (Value.slice ao' (n + 1) cap').ownBlock = some w.heap.size) → K (a.put o.dst (.slice ao' (n + 1) cap')) w') : if Region.wanted o (yielded ops a.tmps) = true then Oper.wp Try.prog o a w K Q else E := by
  have hw : Region.wanted o (yielded ops a.tmps) = true := by simp [Region.wanted, hgd]
  rw [if_pos hw]
  obtain ⟨ao', cap', w', hr, h2, h3, h4⟩ := append_cells hT hI hz hsz hby w o.type base v n xs hown hb G news hnl hone fr hG hm
  unfold Oper.wp execOp
  simp only [ho, resolve, invoke, builtin, Sem.run_bind, Sem.run_pure, Result.andThen_ok, List.map_toArray, List.map_cons, List.map_nil, hs, hy, hr]
  exact h ao' cap' w' h2 h3 h4

end Go.Proofs.Ytflleblcliobdaa
