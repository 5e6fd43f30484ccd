/-
  slices.Grow and Concat at rules; Right.
-/
import Derived.Test.YtnddpalngjmhnaaDoorT4
import Derived.Test.YtnddpalngjmhnaaDoorUGrow
namespace Go.Proofs.YtnddpalngjmhnaaDoor
open Go.RowKit

theorem rrow_cell {w : World} {b off : Nat} {ys : List Ru} (hc : ∀ i (h : i < ys.length), w.cell? ⟨b, off + i * 2, none⟩ = some (.string ⟨(ys[i]).name.toArray⟩) ∧ w.cell? ⟨b, off + i * 2 + 1, none⟩ = some (.string ⟨(ys[i]).guard.toArray⟩)) :
    ∀ j u, (rrow ys)[j]? = some u → w.cell? ((⟨b, off, none⟩ : Addr).add j) = some u := by
  intro j u hu
  rw [WideShapes.add_plain]
  have hj : j < ys.length * 2 := by
    have := (List.getElem?_eq_some_iff.1 hu).1
    rwa [rrow, flat_length rlay_len] at this
  have hi : j / 2 < ys.length := by omega
  have e := flat_get rlay_len ys (j / 2) hi (j % 2) (by omega)
  rw [show j / 2 * 2 + j % 2 = j by omega] at e
  rw [rrow, e] at hu
  obtain ⟨h1, h2⟩ := hc (j / 2) hi
  rcases Nat.mod_two_eq_zero_or_one j with h | h
  · rw [h] at hu
    rw [show off + j = off + j / 2 * 2 by omega, h1]
    exact hu
  · rw [h] at hu
    rw [show off + j = off + j / 2 * 2 + 1 by omega, h2]
    exact hu
theorem append_rules (w : World) (ty : TypeId) (base : Nat) (v : Value) (xs : List Ru) (h : Ro w base v xs) (hb : base ≤ w.heap.size) (y : Value) (ys : List Ru) (hy : Rv w y ys) (hm : xs.length + ys.length ≤ 100000000) :
    ∃ ao' cap' w', (Builtin.append_ #[23, 23] ty #[v, y]).run Tryd.prog w = .ok (.slice ao' (xs.length + ys.length) cap') w' ∧ Ro w' base (.slice ao' (xs.length + ys.length) cap') (xs ++ ys) ∧ w.grownBy w' v.ownBlock := by
  obtain ⟨i, hi, hz0, hz1, hz2⟩ := info_parts Tryd.infoRule
  obtain ⟨ao, cap, rfl, _, hn, hc⟩ := hy
  cases ao with
  | none =>
    have hc0 := hn rfl
    have h0 : ys.length = 0 := by
      rcases Nat.eq_zero_or_pos ys.length with h | h
      · exact h
      · obtain ⟨_, _, e, _⟩ := hc h; cases e
    obtain rfl := List.eq_nil_of_length_eq_zero h0
    subst hc0
    have hrun := run_append_owned_none (P := Tryd.prog) (w := w) base 23 ty 55 i 2 Tryd.underlying23 hi v xs.length (rrow xs) h
    obtain ⟨ao', cap', rfl, _⟩ := own_form h
    exact ⟨ao', cap', w, hrun, by simpa using h, ⟨rfl, rfl, rfl, Nat.le_refl _, fun _ _ _ => rfl⟩⟩
  | some ad =>
    have hsrc : ∀ j u, (rrow ys)[j]? = some u → w.cell? (ad.add j) = some u := by
      rcases Nat.eq_zero_or_pos ys.length with h0 | h0
      · obtain rfl := List.eq_nil_of_length_eq_zero h0
        intro j u hu
        simp [rrow] at hu
      · obtain ⟨b, off, e, _, hc'⟩ := hc h0
        cases e
        exact rrow_cell hc'
    obtain ⟨v', w', hr, h2, h3, _, h5⟩ := run_append_own_at (P := Tryd.prog) w base 23 ty 55 i (.agg #[.string .empty, .string .empty]) 2 32 Tryd.underlying23 hi hz0 hz1 hz2 cells_rule (by decide) v xs.length (rrow xs) h ad ys.length cap (rrow ys) (by rw [rrow, flat_length rlay_len]) hsrc (flat_one rlay_one ys) (by unfold maxLen; omega) (by omega) hb
    obtain ⟨ao', cap', rfl, _⟩ := own_form h2
    refine ⟨ao', cap', w', hr, ?_, h3⟩
    unfold Ro
    rw [rrow, List.flatMap_append, List.length_append]
    exact h2
theorem wpList_append_rules {w : World} {ops : Array Oper} {rest : List Oper} {o : Oper} {a : Act} {Q : Exit → Act → World → Prop} (hgd : o.guard = none) (sl y : Operand) (ho : o.op = .call { callee := .builtin .append, args := #[sl, y], argTypes := #[23, 23] })
    (base : Nat) (v : Value) (xs : List Ru) (hs : a.eval sl = v) (h : Ro w base v xs) (hb : base ≤ w.heap.size) (yv : Value) (hy : a.eval y = yv) (ys : List Ru) (hR : Rv w yv ys) (hm : xs.length + ys.length ≤ 100000000)
    (hK : ∀ ao' cap' w', Ro w' base (.slice ao' (xs.length + ys.length) cap') (xs ++ ys) → w.grownBy w' v.ownBlock → wpList Tryd.prog ops Q rest (a.put o.dst (.slice ao' (xs.length + ys.length) cap')) w') : wpList Tryd.prog ops Q (o :: rest) a w := by
  refine wpList_plain hgd fun K hK' => ?_
  obtain ⟨ao', cap', w', hr, h2, h3⟩ := append_rules w o.type base v xs h hb yv ys hR hm
  unfold Oper.wp execOp
  simp only [ho, resolve, invoke, builtin, Sem.run_bind, Sem.run_pure, Result.andThen_ok, List.map_toArray, List.map_cons, List.map_nil, hs, hy, hr]
  exact hK' _ _ (hK ao' cap' w' h2 h3)

/-- Two slices of rules in a row. -/
theorem two_at {w : World} {G : Nat} {x y : Value} {t : TypeId} {fr : Nat × Nat} (h : w.heap[G]? = some (.cells #[x, y] t fr)) (k : Nat) (hk : k < 2) : w.cell? ⟨G, k, none⟩ = some (if k = 0 then x else y) := by
  rcases k with _ | _ | k
  · simp [World.cell?, h]
  · simp [World.cell?, h]
  · omega

theorem size_str (w0 : World) : (sizeOf (Tryd.prog.elem 46)).run Tryd.prog w0 = .ok 1 w0 := by
  have e : Tryd.prog.elem 46 = 9 := by kernel_rfl
  rw [e]
  exact Tryd.sizeOf9 w0
set_option maxRecDepth 100000 in
theorem cut_texts {g n cap : Nat} (m : Nat) (h : m ≤ cap) (w0 : World) : (Instr.slice 46 (.slice (some ⟨g, 0, none⟩) n cap) none (some (.int .i64 (m : Int))) none).run Tryd.prog w0 = .ok (.slice (some ⟨g, 0, none⟩) m cap) w0 := by
  have := run_slice_h (P := Tryd.prog) w0 46 (some ⟨g, 0, none⟩) n cap Tryd.underlying46 .i64 m (by omega) (by omega)
  rw [this, size_str]
  simp [Result.andThen, sliced, Addr.add]
theorem Txs.few {w : World} {base g cap : Nat} {n : Nat} {ns : List (List UInt8)} (h : Txs w base (.slice (some ⟨g, 0, none⟩) n cap) ns) (i : Nat) (hi : i ≤ ns.length) (hl : ns.length ≤ 1000000) : Ns w (.slice (some ⟨g, 0, none⟩) i cap) (ns.take i) := by
  have hlen : (ns.take i).length = i := by rw [List.length_take]; omega
  obtain ⟨ao, cap', e, _, _⟩ := h.shape
  injection e with e1 e2 e3
  subst e2 e3
  have hn := h.ns (by omega)
  obtain ⟨_, _, e, _, hc⟩ := hn
  cases e
  refine ⟨some ⟨g, 0, none⟩, _, by rw [hlen], by omega, fun h0 => ?_⟩
  obtain ⟨b, off, e, hb, hx⟩ := hc (by omega)
  refine ⟨b, off, e, hb, fun j hj => ?_⟩
  rw [List.getElem_take]
  exact hx j (by omega)

/-- The names that still come. -/
theorem rns_step {ats : List At} {ns : List (List UInt8)} {i : Nat} (hi : i < ns.length) :
    rns (ats.drop i) (ns.take i) (ns.drop i) = if isName ns[i] = false then 20 else if ns[i] ∈ ns.take i then 21 else if (∃ h : i < ats.length, ranged ats[i] = false) then 23 else rns (ats.drop (i + 1)) (ns.take (i + 1)) (ns.drop (i + 1)) := by
  rw [List.drop_eq_getElem_cons hi]
  unfold rns
  have e1 : (ats.drop i).tail = ats.drop (i + 1) := by rw [List.tail_drop]
  have e2 : ns.take i ++ [ns[i]] = ns.take (i + 1) := (List.take_succ_eq_append_getElem hi).symm
  rw [e1, e2]
  have e3 : ((ats.drop i).head?.any (fun a => !ranged a) = true) ↔ ∃ h : i < ats.length, ranged ats[i] = false := by
    rw [List.head?_drop]
    by_cases h : i < ats.length
    · simp [h]
    · simp [h]
  simp only [e3]
  cases ns.drop (i + 1) <;> rfl
/-- How long a type's texts may be. -/
structure Tsz (t : Ty) : Prop where
  name : t.name.length ≤ 281474976710656
  attrs : ∀ a ∈ t.attrs, a.name.length ≤ 281474976710656
  stages : ∀ r ∈ t.stages, r.name.length ≤ 281474976710656 ∧ r.guard.length ≤ 281474976710656
  marks : ∀ r ∈ t.marks, r.name.length ≤ 281474976710656 ∧ r.guard.length ≤ 281474976710656
theorem Tsz.names {t : Ty} (h : Tsz t) : ∀ n ∈ nms t, n.length ≤ 281474976710656 := by
  intro n hn
  simp only [nms, List.mem_append, List.mem_map] at hn
  rcases hn with (⟨a, ha, rfl⟩ | ⟨a, ha, rfl⟩) | ⟨a, ha, rfl⟩
  · exact h.attrs a ha
  · exact (h.stages a ha).1
  · exact (h.marks a ha).1
theorem Tsz.guards {t : Ty} (h : Tsz t) : ∀ r ∈ t.stages ++ t.marks, r.guard.length ≤ 281474976710656 := by
  intro r hr
  rcases List.mem_append.1 hr with hr | hr
  · exact (h.stages r hr).2
  · exact (h.marks r hr).2
theorem rgs_step {ns : List (List UInt8)} {rs : List Ru} {i : Nat} (hi : i < rs.length) : rgs ns (rs.drop i) = if (chk ns (rs[i]).guard).1 ≠ 0 then (chk ns (rs[i]).guard).1 else rgs ns (rs.drop (i + 1)) := by
  rw [List.drop_eq_getElem_cons hi]
  rfl

end Go.Proofs.YtnddpalngjmhnaaDoor
