/-
  The texts of the laws: one for each slot; a log that knows the first of them.
-/
import Derived.Test.YtmejeiadfcdogaaL4
import Derived.Laws.Runes
namespace Go.Proofs.Ytmejeiadfcdogaa
open Go.RowKit

theorem bytes_back (b : ByteArray) : (⟨b.data.toList.toArray⟩ : ByteArray) = b := by cases b; simp
theorem lists_of (F : Nat → ByteArray) : ∃ f : Nat → List UInt8, ∀ s, (⟨(f s).toArray⟩ : ByteArray) = F s := ⟨fun s => (F s).data.toList, fun s => bytes_back (F s)⟩
/-- string(rune('A' + s)) -/
def IsTx (tx : Nat → List UInt8) : Prop := ∀ s, (⟨(tx s).toArray⟩ : ByteArray) = Utf8.encode (65 + (s : Int))
theorem tx_some : ∃ tx, IsTx tx := lists_of (fun s => Utf8.encode (65 + (s : Int)))
variable {tx : Nat → List UInt8}
theorem conv_tx (h : IsTx tx) (s : Nat) (W : World) : (convert 21 9 (.int .i32 (65 + (s : Int)))).run Try.prog W = .ok (.string ⟨(tx s).toArray⟩) W := by
  rw [h s]
  exact run_convert_int_string W _ _ _ _ rfl Try.underlying9

/-- The first k slots have their texts. -/
def upTo (tx : Nat → List UInt8) (k : Nat) : Vals := fun z => if 0 ≤ z ∧ z < k then some (tx z.toNat) else none
theorem upTo_in {k : Nat} {z : Nat} (h : z < k) : upTo tx k (z : Int) = some (tx z) := by
  unfold upTo
  rw [if_pos (by omega)]
  simp
theorem upTo_out {k : Nat} {z : Int} (h : (k : Int) ≤ z) : upTo tx k z = none := by
  unfold upTo
  rw [if_neg (by omega)]
theorem upTo_zero : upTo tx 0 = fun _ => none := by
  funext z
  unfold upTo
  rw [if_neg (by omega)]
theorem upTo_put (k : Nat) : put (upTo tx k) (k : Int) (tx k) = upTo tx (k + 1) := by
  funext z
  unfold put upTo
  by_cases h : z = (k : Int)
  · subst h
    rw [if_pos rfl, if_pos (by omega)]
    simp
  · rw [if_neg h]
    by_cases h2 : 0 ≤ z ∧ z < (k : Int)
    · rw [if_pos h2, if_pos (by omega)]
    · rw [if_neg h2, if_neg (by omega)]
theorem upTo_next {k m : Nat} (h : IsNext (upTo tx k) 0 m) : m = k :=
  next_at h (Nat.zero_le _) (fun z a b => by
    obtain ⟨j, rfl⟩ : ∃ j : Nat, z = j := ⟨z.toNat, by omega⟩
    rw [upTo_in (by omega)]
    simp) (upTo_out (Int.le_refl _))

/-- The first k texts. -/
def txs (tx : Nat → List UInt8) (k : Nat) : List (List UInt8) := (List.range k).map tx
theorem txs_length (k : Nat) : (txs tx k).length = k := by simp [txs]
theorem txs_get (k : Nat) {s : Nat} (h : s < (txs tx k).length) : (txs tx k)[s] = tx s := by simp [txs]
theorem txs_vals {f : Vals} {a m : Nat} (h : a ≤ m) (hf : ∀ s : Nat, a ≤ s → s < m → f s = some (tx s)) : txs tx a ++ vals f a m = txs tx m := by
  have e : vals f a m = (List.range' a (m - a)).map tx := by
    unfold vals
    apply List.map_congr_left
    intro s hs
    rw [List.mem_range'_1] at hs
    rw [hf s hs.1 (by omega), Option.getD_some]
  rw [e]
  unfold txs
  rw [← List.map_append]
  congr 1
  have := List.range'_append_1 (s := 0) (m := a) (n := m - a)
  rw [Nat.zero_add, show a + (m - a) = m by omega] at this
  rw [List.range_eq_range', List.range_eq_range']
  exact this

theorem Txs.at {w : World} {base n cap : Nat} {ao : Option Addr} {ss : List (List UInt8)} (h : Txs w base (.slice ao n cap) ss) (k : Nat) (hk : k < ss.length) : ∃ g, ao = some ⟨g, 0, none⟩ ∧ w.cell? ⟨g, k, none⟩ = some (.string ⟨(ss[k]).toArray⟩) := by
  obtain ⟨_, _, e1, _, g1⟩ := h.shape
  obtain ⟨g, g1⟩ := g1 (by omega)
  injection e1 with e1 _ _
  subst e1 g1
  exact ⟨g, rfl, h.cell k hk⟩

/-- An append of a row of texts. -/
theorem append_texts (w : World) (ty : TypeId) (base b2 : Nat) (v v2 : Value) (ss ts : List (List UInt8)) (h : Txs w base v ss) (h2 : Txs w b2 v2 ts) (hb : base ≤ w.heap.size) (hm : ss.length + ts.length ≤ 1099511627776) :
    ∃ ao' cap' w', (Builtin.append_ #[32, 32] ty #[v, v2]).run Try.prog w = .ok (.slice ao' (ss.length + ts.length) cap') w' ∧ Txs w' base (.slice ao' (ss.length + ts.length) cap') (ss ++ ts) ∧ w.grownBy w' v.ownBlock := by
  obtain ⟨i, hi, hz0, hz1, hz2⟩ := info_parts Try.infoText
  rcases h2.2 with ⟨rfl, h0⟩ | ⟨g, cap, cur, rfl, _, hg, hc, _⟩
  · have e : ts = [] := List.eq_nil_of_length_eq_zero h0
    subst e
    have hrun := run_append_owned_none (P := Try.prog) (w := w) base 32 ty 9 i 1 Try.underlying32 hi v ss.length (srow ss) h
    obtain ⟨ao, c, rfl, _, _⟩ := h.shape
    exact ⟨ao, c, w, hrun, by simpa using h, ⟨rfl, rfl, rfl, Nat.le_refl _, fun _ _ _ => rfl⟩⟩
  · have hsrc : ∀ j u, (srow ts)[j]? = some u → w.cell? ((⟨g, 0, none⟩ : Addr).add j) = some u := by
      intro j u hu
      have hj : j < ts.length := by
        have := (List.getElem?_eq_some_iff.1 hu).1
        simpa [srow] using this
      have e : (⟨g, 0, none⟩ : Addr).add j = ⟨g, j, none⟩ := by simp [Addr.add]; omega
      rw [e, h2.cell j hj, ← srow_get ts j hj]
      exact hu
    obtain ⟨v', w', hr, q2, q3, _, q5⟩ := run_append_own_at (P := Try.prog) w base 32 ty 9 i (.string ⟨#[]⟩) 1 16 Try.underlying32 hi hz0 hz1 hz2 rfl (by decide) v ss.length (srow ss) h ⟨g, 0, none⟩ ts.length cap (srow ts) (by simp [srow]) hsrc (srow_one ts) (by unfold maxLen; omega) (by omega) hb
    obtain ⟨ao', cap', rfl⟩ := own_shape_any q2
    refine ⟨ao', cap', w', hr, ?_, q3⟩
    unfold Txs
    rw [srow_append, List.length_append]
    exact q2
theorem wpList_append_texts {w : World} {ops : Array Oper} {rest : List Oper} {o : Oper} {a : Act} {Q : Exit → Act → World → Prop} (hgd : o.guard = none) (sl y : Operand) (ho : o.op = .call { callee := .builtin .append, args := #[sl, y], argTypes := #[32, 32] })
    (base b2 : Nat) (v v2 : Value) (ss ts : List (List UInt8)) (hs : a.eval sl = v) (h : Txs w base v ss) (hy : a.eval y = v2) (h2 : Txs w b2 v2 ts) (hb : base ≤ w.heap.size) (hm : ss.length + ts.length ≤ 1099511627776)
    (hK : ∀ ao' cap' w', Txs w' base (.slice ao' (ss.length + ts.length) cap') (ss ++ ts) → w.grownBy w' v.ownBlock → wpList Try.prog ops Q rest (a.put o.dst (.slice ao' (ss.length + ts.length) cap')) w') : wpList Try.prog ops Q (o :: rest) a w := by
  refine wpList_plain hgd fun K hK' => ?_
  obtain ⟨ao', cap', w', hr, q2, q3⟩ := append_texts w o.type base b2 v v2 ss ts h h2 hb hm
  unfold Oper.wp execOp
  simp only [ho, resolve, invoke, builtin, Sem.run_bind, Sem.run_pure, Result.andThen_ok, List.map_toArray, List.map_cons, List.map_nil, hs, hy, hr]
  exact hK' _ _ (hK ao' cap' w' q2 q3)

end Go.Proofs.Ytmejeiadfcdogaa
