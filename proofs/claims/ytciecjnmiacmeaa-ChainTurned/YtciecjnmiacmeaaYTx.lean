/-
  append(a, b...) of texts.
-/
import Derived.Test.YtciecjnmiacmeaaWStr
namespace Go.Proofs.Ytciecjnmiacmeaa
open Go.RowKit

theorem append_texts (w : World) (ty : TypeId) (base b2 : Nat) (v v2 : Value) (ss ts : List (List UInt8)) (h : Txs w base v ss) (h2 : Txs w b2 v2 ts) (hb : base ≤ w.heap.size) (hm : ss.length + ts.length ≤ 1099511627776) :
    ∃ ao' cap' w', (Builtin.append_ #[24, 24] ty #[v, v2]).run Try.prog w = .ok (.slice ao' (ss.length + ts.length) cap') w' ∧ Txs w' base (.slice ao' (ss.length + ts.length) cap') (ss ++ ts) ∧ w.grownBy w' v.ownBlock := by
  obtain ⟨i, hi, hz0, hz1, hz2⟩ := info_parts Try.infoText
  rcases h2.2 with ⟨rfl, h0⟩ | ⟨g, cap, cur, rfl, _, hg, hc, _⟩
  · have e : ts = [] := List.eq_nil_of_length_eq_zero h0
    subst e
    have hrun := run_append_owned_none (P := Try.prog) (w := w) base 24 ty 9 i 1 Try.underlying24 hi v ss.length (srow ss) h
    obtain ⟨ao, c, rfl, _, _⟩ := h.shape
    exact ⟨ao, c, w, hrun, by simpa using h, ⟨rfl, rfl, rfl, Nat.le_refl _, fun _ _ _ => rfl⟩⟩
  · have hsrc : ∀ j u, (srow ts)[j]? = some u → w.cell? ((⟨g, 0, none⟩ : Addr).add j) = some u := by
      intro j u hu
      have hj : j < ts.length := by
        have := (List.getElem?_eq_some_iff.1 hu).1
        simpa [srow] using this
      have e : (⟨g, 0, none⟩ : Addr).add j = ⟨g, j, none⟩ := by simp [Addr.add]; omega
      rw [e, h2.cell j hj, ← srow_get ts j hj]
      exact hu
    obtain ⟨v', w', hr, q2, q3, _, q5⟩ := run_append_own_at (P := Try.prog) w base 24 ty 9 i (.string ⟨#[]⟩) 1 16 Try.underlying24 hi hz0 hz1 hz2 rfl (by decide) v ss.length (srow ss) h ⟨g, 0, none⟩ ts.length cap (srow ts) (by simp [srow]) hsrc (srow_one ts) (by unfold maxLen; omega) (by omega) hb
    obtain ⟨ao', cap', rfl⟩ := own_shape_any q2
    refine ⟨ao', cap', w', hr, ?_, q3⟩
    unfold Txs
    rw [srow_append, List.length_append]
    exact q2
theorem wpList_append_texts {w : World} {ops : Array Oper} {rest : List Oper} {o : Oper} {a : Act} {Q : Exit → Act → World → Prop} (hgd : o.guard = none) (sl y : Operand) (ho : o.op = .call { callee := .builtin .append, args := #[sl, y], argTypes := #[24, 24] })
    (base b2 : Nat) (v v2 : Value) (ss ts : List (List UInt8)) (hs : a.eval sl = v) (h : Txs w base v ss) (hy : a.eval y = v2) (h2 : Txs w b2 v2 ts) (hb : base ≤ w.heap.size) (hm : ss.length + ts.length ≤ 1099511627776)
    (hK : ∀ ao' cap' w', Txs w' base (.slice ao' (ss.length + ts.length) cap') (ss ++ ts) → w.grownBy w' v.ownBlock → wpList Try.prog ops Q rest (a.put o.dst (.slice ao' (ss.length + ts.length) cap')) w') : wpList Try.prog ops Q (o :: rest) a w := by
  refine wpList_plain hgd fun K hK' => ?_
  obtain ⟨ao', cap', w', hr, q2, q3⟩ := append_texts w o.type base b2 v v2 ss ts h h2 hb hm
  unfold Oper.wp execOp
  simp only [ho, resolve, invoke, builtin, Sem.run_bind, Sem.run_pure, Result.andThen_ok, List.map_toArray, List.map_cons, List.map_nil, hs, hy, hr]
  exact hK' _ _ (hK ao' cap' w' q2 q3)
theorem step_append_texts {w : World} {ops : Array Oper} {o : Oper} {a : Act} {K : Act → World → Prop} {Q : Exit → Act → World → Prop} {E : Prop} (hgd : o.guard = none) (sl y : Operand) (ho : o.op = .call { callee := .builtin .append, args := #[sl, y], argTypes := #[24, 24] })
    (base b2 : Nat) (v v2 : Value) (ss ts : List (List UInt8)) (hs : a.eval sl = v) (h : Txs w base v ss) (hy : a.eval y = v2) (h2 : Txs w b2 v2 ts) (hb : base ≤ w.heap.size) (hm : ss.length + ts.length ≤ 1099511627776)
    (hK : ∀ ao' cap' w', Txs w' base (.slice ao' (ss.length + ts.length) cap') (ss ++ ts) → w.grownBy w' v.ownBlock → K (a.put o.dst (.slice ao' (ss.length + ts.length) cap')) w') : if Region.wanted o (yielded ops a.tmps) = true then Oper.wp Try.prog o a w K Q else E := by
  have hw : Region.wanted o (yielded ops a.tmps) = true := by simp [Region.wanted, hgd]
  rw [if_pos hw]
  obtain ⟨ao', cap', w', hr, q2, q3⟩ := append_texts w o.type base b2 v v2 ss ts h h2 hb hm
  unfold Oper.wp execOp
  simp only [ho, resolve, invoke, builtin, Sem.run_bind, Sem.run_pure, Result.andThen_ok, List.map_toArray, List.map_cons, List.map_nil, hs, hy, hr]
  exact hK _ _ _ q2 q3

end Go.Proofs.Ytciecjnmiacmeaa
