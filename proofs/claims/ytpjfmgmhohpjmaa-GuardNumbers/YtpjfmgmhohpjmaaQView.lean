/-
  Texts that came in, cut and appended; numbers of one.
-/
import Derived.Test.YtpjfmgmhohpjmaaQArgs
import Derived.Test.YtpjfmgmhohpjmaaQ11
namespace Go.Proofs.Ytpjfmgmhohpjmaa
open Go.RowKit

theorem Nv.all {w w' : World} {a : Option Addr} {cap : Nat} {ns : List (List UInt8)} (h : Nv w a cap ns) (k : Kept (fun _ => True) w w') : Nv w' a cap ns := by
  refine ⟨h.le, fun h0 => ?_⟩
  obtain ⟨b, off, e, hb, hc⟩ := h.cells h0
  exact ⟨b, off, e, Nat.lt_of_lt_of_le hb k.size, fun i hi => (kept_cell k hb trivial).trans (hc i hi)⟩
theorem Nv.ns {w : World} {a : Option Addr} {cap : Nat} {ns : List (List UInt8)} (h : Nv w a cap ns) (hl : ns.length ≤ 1000000) : Ns w (.slice a ns.length cap) ns := ⟨a, cap, rfl, hl, h.cells⟩
/-- The first m of them. -/
theorem Nv.take {w : World} {a : Option Addr} {cap : Nat} {ns : List (List UInt8)} (h : Nv w a cap ns) (m : Nat) (hm : m < ns.length) :
    Nv w a cap (ns.take m) ∧ (ns.take m).length = m ∧ ∀ w0, (Instr.slice 22 (.slice a ns.length cap) none (some (.int .i64 (m : Int))) none).run Try.prog w0 = .ok (.slice a m cap) w0 := by
  have hl : (ns.take m).length = m := by rw [List.length_take]; omega
  obtain ⟨b, off, rfl, hb, hc⟩ := h.cells (by omega)
  refine ⟨⟨by have := h.le; omega, fun _ => ⟨b, off, rfl, hb, fun i hi => ?_⟩⟩, hl, fun w0 => ?_⟩
  · rw [hc i (by omega)]
    simp
  · have := run_slice_h (P := Try.prog) w0 22 (some ⟨b, off, none⟩) ns.length cap Try.underlying22 .i64 m (by omega) (by have := h.le; omega)
    rw [this, size_text]
    simp [Result.andThen, sliced, Addr.add]

/-- An append of texts that came in. -/
theorem append_nv (w : World) (ty : TypeId) (base : Nat) (v : Value) (ss : List (List UInt8)) (h : Txs w base v ss) (a : Option Addr) (cap : Nat) (ts : List (List UInt8)) (h2 : Nv w a cap ts) (hn : a = none → cap = 0) (hb : base ≤ w.heap.size) (hm : ss.length + ts.length ≤ 1099511627776) :
    ∃ ao' cap' w', (Builtin.append_ #[22, 22] ty #[v, .slice a ts.length cap]).run Try.prog w = .ok (.slice ao' (ss.length + ts.length) cap') w' ∧ Txs w' base (.slice ao' (ss.length + ts.length) cap') (ss ++ ts) ∧ w.grownBy w' v.ownBlock := by
  obtain ⟨i, hi, hz0, hz1, hz2⟩ := info_parts Try.infoText
  cases a with
  | none =>
    have e : ts = [] := by
      rcases Nat.eq_zero_or_pos ts.length with h0 | h0
      · exact List.eq_nil_of_length_eq_zero h0
      · obtain ⟨b, off, e, _⟩ := h2.cells h0
        cases e
    subst e
    have hc := hn rfl
    subst hc
    have hrun := run_append_owned_none (P := Try.prog) (w := w) base 22 ty 9 i 1 Try.underlying22 hi v ss.length (srow ss) h
    obtain ⟨ao, c, rfl, _, _⟩ := h.shape
    exact ⟨ao, c, w, hrun, by simpa using h, ⟨rfl, rfl, rfl, Nat.le_refl _, fun _ _ _ => rfl⟩⟩
  | some ad =>
    have hsrc : ∀ j u, (srow ts)[j]? = some u → w.cell? (ad.add j) = some u := by
      intro j u hu
      have hj : j < ts.length := by
        have := (List.getElem?_eq_some_iff.1 hu).1
        simpa [srow] using this
      obtain ⟨b, off, e, _, hc⟩ := h2.cells (by omega)
      cases e
      rw [WideShapes.add_plain, hc j hj, ← srow_get ts j hj]
      exact hu
    obtain ⟨v', w', hr, q2, q3, _, q5⟩ := run_append_own_at (P := Try.prog) w base 22 ty 9 i (.string ⟨#[]⟩) 1 16 Try.underlying22 hi hz0 hz1 hz2 rfl (by decide) v ss.length (srow ss) h ad ts.length cap (srow ts) (by simp [srow]) hsrc (srow_one ts) (by unfold maxLen; omega) (by omega) hb
    obtain ⟨ao', cap', rfl⟩ := own_shape_any q2
    refine ⟨ao', cap', w', hr, ?_, q3⟩
    unfold Txs
    rw [srow_append, List.length_append]
    exact q2
theorem wpList_append_nv {w : World} {ops : Array Oper} {rest : List Oper} {o : Oper} {a : Act} {Q : Exit → Act → World → Prop} (hgd : o.guard = none) (sl y : Operand) (ho : o.op = .call { callee := .builtin .append, args := #[sl, y], argTypes := #[22, 22] })
    (base : Nat) (v : Value) (ss : List (List UInt8)) (hs : a.eval sl = v) (h : Txs w base v ss) (ad : Option Addr) (n cap : Nat) (hy : a.eval y = .slice ad n cap) (ts : List (List UInt8)) (hn : ts.length = n) (h2 : Nv w ad cap ts) (hc : ad = none → cap = 0) (hb : base ≤ w.heap.size) (hm : ss.length + ts.length ≤ 1099511627776)
    (hK : ∀ ao' cap' w', Txs w' base (.slice ao' (ss.length + n) cap') (ss ++ ts) → w.grownBy w' v.ownBlock → wpList Try.prog ops Q rest (a.put o.dst (.slice ao' (ss.length + n) cap')) w') : wpList Try.prog ops Q (o :: rest) a w := by
  refine wpList_plain hgd fun K hK' => ?_
  subst hn
  obtain ⟨ao', cap', w', hr, q2, q3⟩ := append_nv w o.type base v ss h ad cap ts h2 hc hb hm
  unfold Oper.wp execOp
  simp only [ho, resolve, invoke, builtin, Sem.run_bind, Sem.run_pure, Result.andThen_ok, List.map_toArray, List.map_cons, List.map_nil, hs, hy, hr]
  exact hK' _ _ (hK ao' cap' w' q2 q3)
theorem new_texts (W : World) : Txs (W.alloc (.cells #[] 9)) W.heap.size (.slice (some ⟨W.heap.size, 0, none⟩) 0 0) [] :=
  ⟨rfl, .inr ⟨W.heap.size, 0, #[], rfl, Nat.le_refl _, heap_alloc_new W _, Nat.le_refl _, by decide, rfl, rfl⟩⟩
theorem append_first {w wr w1 : World} {o : Obj} {ao : Option Addr} {cap : Nat} {os : List (List UInt8)} (k : Kept (fun _ => True) w wr) (t : Txs w1 wr.heap.size (.slice ao (([] : List (List UInt8)).length + os.length) cap) ([] ++ os)) (g : (wr.alloc o).grownBy w1 (Value.slice (some ⟨wr.heap.size, 0, none⟩) 0 0).ownBlock) :
    Txs w1 wr.heap.size (.slice ao os.length cap) os ∧ Kept (fun _ => True) w w1 ∧ wr.heap.size ≤ w1.heap.size := by
  have e : ([] : List (List UInt8)).length + os.length = os.length := by simp
  rw [e] at t
  refine ⟨t, (k.alloc o).grown g (fun i hi e => ?_), Nat.le_trans (by simp) g.size⟩
  have hs := k.size
  have e' : wr.heap.size = i := by simpa [Value.ownBlock] using e
  omega
theorem append_second {w wr w1 w2 : World} {o : Obj} {ao : Option Addr} {n cap : Nat} {os : List (List UInt8)} (k : Kept (fun _ => True) w w1) (s : w.heap.size ≤ wr.heap.size) (t : Txs w1 wr.heap.size (.slice ao n cap) os) (g : (w1.alloc o).grownBy w2 (Value.slice ao n cap).ownBlock) : Kept (fun _ => True) w w2 :=
  (k.alloc o).grown g (fun i hi e => by have := (World.ownsRow.lt t i e).1; omega)
theorem one_text (W : World) (t : List UInt8) : Txs (W.alloc (.cells #[.string ⟨t.toArray⟩] 9)) 0 (.slice (some ⟨W.heap.size, 0, none⟩) 1 1) [t] :=
  ⟨rfl, .inr ⟨W.heap.size, 1, _, rfl, Nat.zero_le _, heap_alloc_new W _, Nat.le_refl _, by decide, rfl, rfl⟩⟩

open Go.Deep Go.Joins Go.WideShapes Go.ChangeShapes Go.ChangeAt in
theorem nil_texts {H : Type} {enc : TypeId × Value → H} {W : World} {a : Option Addr} {len cap : Nat} {d : DataW H} {p : List MemPlace} (h : DataW.Trod enc Try.prog W 0 (fun _ => true) true 22 (.slice a len cap) d p) : a = none → cap = 0 := by
  obtain ⟨fuel, hf⟩ := h
  rcases open_slice1 Try.underlying22 Try.cellsStr hf with ⟨hcs, hx⟩ | ⟨x, l, c, m, n, V, D, Pl, hcs, _⟩
  · simp [Value.cells] at hcs
    exact fun _ => hcs.2.2
  · simp [Value.cells] at hcs
    intro e; rw [e] at hcs; simp at hcs

end Go.Proofs.Ytpjfmgmhohpjmaa
