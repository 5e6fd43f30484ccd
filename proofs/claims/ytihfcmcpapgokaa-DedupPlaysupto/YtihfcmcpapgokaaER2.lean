/-
  The document's table: Done.
-/
import Derived.Test.YtihfcmcpapgokaaER1
namespace Go.Proofs.Ytihfcmcpapgokaa
open Go.RowKit

/-- An append of several clients that lie anywhere. -/
theorem append_rows {T e by' : Nat} {p : Bool} {z : Value} (hT : Try.prog.underlying T = some (.slice e)) (hI : (Try.prog.info? e).map (fun i => (i.zero, i.size, i.bytes)) = some (some z, 3, by')) (hz : z.cells.size = 3) (hby : by' ≤ 64)
    (w : World) (ty : TypeId) (base : Nat) (v : Value) (n : Nat) (xs : List La) (hown : w.ownsRow base e 3 v n (row p xs)) (hb : base ≤ w.heap.size) (ad : Addr) (k c : Nat) (ys : List La) (hk : ys.length = k) (hsrc : ∀ j u, (row p ys)[j]? = some u → w.cell? (ad.add j) = some u) (hm : n + k ≤ 600) :
    ∃ ao' cap' w', (Builtin.append_ #[T, T] ty #[v, .slice (some ad) k c]).run Try.prog w = .ok (.slice ao' (n + k) cap') w' ∧ w'.ownsRow base e 3 (.slice ao' (n + k) cap') (n + k) (row p (xs ++ ys)) ∧ w.grownBy w' v.ownBlock ∧
      ((Value.slice ao' (n + k) cap').ownBlock = v.ownBlock ∨ (Value.slice ao' (n + k) cap').ownBlock = some w.heap.size) := by
  obtain ⟨i, hi, hz0, hz1, hz2⟩ := info_parts hI
  obtain ⟨v', w', hr, h2, h3, _, h5⟩ := run_append_own_at (P := Try.prog) w base T ty e i z 3 by' hT hi hz0 hz1 hz2 hz (by decide) v n (row p xs) hown ad k c (row p ys) (by rw [row_length, hk]) hsrc (row_one p ys) (by unfold maxLen; omega) (Nat.le_trans (Nat.mul_le_mul (by omega : n + k ≤ 600) hby) (by decide)) hb
  obtain ⟨ao', cap', rfl⟩ := shape_any h2
  rw [← row_append] at h2
  exact ⟨ao', cap', w', hr, h2, h3, h5⟩

theorem step_append_rows {T e by' : Nat} {p : Bool} {z : Value} {w : World} {ops : Array Oper} {o : Oper} {a : Act} {K : Act → World → Prop} {Q : Exit → Act → World → Prop} {E : Prop} (hT : Try.prog.underlying T = some (.slice e)) (hI : (Try.prog.info? e).map (fun i => (i.zero, i.size, i.bytes)) = some (some z, 3, by')) (hz : z.cells.size = 3) (hby : by' ≤ 64)
    (hgd : o.guard = none) (sl y : Operand) (ho : o.op = .call { callee := .builtin .append, args := #[sl, y], argTypes := #[T, T] })
    (base : Nat) (v : Value) (n : Nat) (xs : List La) (hs : a.eval sl = v) (hown : w.ownsRow base e 3 v n (row p xs)) (hb : base ≤ w.heap.size) (ad : Addr) (k c : Nat) (ys : List La) (hy : a.eval y = .slice (some ad) k c) (hk : ys.length = k) (hsrc : ∀ j u, (row p ys)[j]? = some u → w.cell? (ad.add j) = some u) (hm : n + k ≤ 600) (N : Nat) (hN : n + k = N)
    (h : ∀ ao' cap' w', w'.ownsRow base e 3 (.slice ao' N cap') N (row p (xs ++ ys)) → w.grownBy w' v.ownBlock → ((Value.slice ao' N cap').ownBlock = v.ownBlock ∨ (Value.slice ao' N cap').ownBlock = some w.heap.size) → K (a.put o.dst (.slice ao' N cap')) w') : if Region.wanted o (yielded ops a.tmps) = true then Oper.wp Try.prog o a w K Q else E := by
  have hw : Region.wanted o (yielded ops a.tmps) = true := by simp [Region.wanted, hgd]
  rw [if_pos hw]
  subst hN
  obtain ⟨ao', cap', w', hr, h2, h3, h4⟩ := append_rows hT hI hz hby w o.type base v n xs hown hb ad k c ys hk hsrc hm
  unfold Oper.wp execOp
  simp only [ho, resolve, invoke, builtin, Sem.run_bind, Sem.run_pure, Result.andThen_ok, List.map_toArray, List.map_cons, List.map_nil, hs, hy, hr]
  exact h ao' cap' w' h2 h3 h4

theorem wpList_append_rows {T e by' : Nat} {p : Bool} {z : Value} {w : World} {ops : Array Oper} {rest : List Oper} {o : Oper} {a : Act} {Q : Exit → Act → World → Prop} (hT : Try.prog.underlying T = some (.slice e)) (hI : (Try.prog.info? e).map (fun i => (i.zero, i.size, i.bytes)) = some (some z, 3, by')) (hz : z.cells.size = 3) (hby : by' ≤ 64)
    (hgd : o.guard = none) (sl y : Operand) (ho : o.op = .call { callee := .builtin .append, args := #[sl, y], argTypes := #[T, T] })
    (base : Nat) (v : Value) (n : Nat) (xs : List La) (hs : a.eval sl = v) (hown : w.ownsRow base e 3 v n (row p xs)) (hb : base ≤ w.heap.size) (ad : Addr) (k c : Nat) (ys : List La) (hy : a.eval y = .slice (some ad) k c) (hk : ys.length = k) (hsrc : ∀ j u, (row p ys)[j]? = some u → w.cell? (ad.add j) = some u) (hm : n + k ≤ 600) (N : Nat) (hN : n + k = N)
    (h : ∀ ao' cap' w', w'.ownsRow base e 3 (.slice ao' N cap') N (row p (xs ++ ys)) → w.grownBy w' v.ownBlock → ((Value.slice ao' N cap').ownBlock = v.ownBlock ∨ (Value.slice ao' N cap').ownBlock = some w.heap.size) → wpList Try.prog ops Q rest (a.put o.dst (.slice ao' N cap')) w') : wpList Try.prog ops Q (o :: rest) a w := by
  refine wpList_plain hgd fun K hK => ?_
  subst hN
  obtain ⟨ao', cap', w', hr, h2, h3, h4⟩ := append_rows hT hI hz hby w o.type base v n xs hown hb ad k c ys hk hsrc hm
  unfold Oper.wp execOp
  simp only [ho, resolve, invoke, builtin, Sem.run_bind, Sem.run_pure, Result.andThen_ok, List.map_toArray, List.map_cons, List.map_nil, hs, hy, hr]
  exact hK _ _ (h ao' cap' w' h2 h3 h4)

/-- An empty row that has just been made. -/
theorem own_new3 (p : Bool) (e : TypeId) (w : World) (base : Nat) (hb : base ≤ w.heap.size) : (w.alloc (.cells #[] e)).ownsRow base e 3 (.slice (some ⟨w.heap.size, 0, none⟩) 0 0) 0 (row p []) :=
  ⟨by simp [row], .inr ⟨w.heap.size, 0, #[], rfl, hb, heap_alloc_new w _, Nat.zero_le _, by unfold maxLen; omega, by simp, by simp [row]⟩⟩

theorem Try.elemOne : Try.prog.elem 65 = 69 := by kernel_rfl
theorem size_one (w0 : World) : (sizeOf (Try.prog.elem 65)).run Try.prog w0 = .ok 3 w0 := by
  obtain ⟨i, hi, hz0, hz1, hz2⟩ := info_parts Try.infoOne
  rw [Try.elemOne]
  simp [sizeOf, typeInfo, hi, hz1]

/-- The first k, the ones from j on, as Go slices them: where they lie. -/
theorem cut_front {g n cap k : Nat} (hk : k ≤ n) (hc : n ≤ cap) (w0 : World) : (Instr.slice 65 (.slice (some ⟨g, 0, none⟩) n cap) none (some (.int .i64 (k : Int))) none).run Try.prog w0 = .ok (.slice (some ⟨g, 0, none⟩) k cap) w0 := by
  rw [run_slice_h (P := Try.prog) w0 65 _ n cap Try.underlying65 .i64 k (by omega) (by omega), size_one]
  simp [Result.andThen, sliced, Addr.add]
theorem cut_back {g n cap j : Nat} (hj : j ≤ n) (_ : n ≤ cap) : ∃ A : Addr, A = (if cap = j then ⟨g, 0, none⟩ else ⟨g, j * 3, none⟩) ∧ ∀ w0, (Instr.slice 65 (.slice (some ⟨g, 0, none⟩) n cap) (some (.int .i64 (j : Int))) none none).run Try.prog w0 = .ok (.slice (some A) (n - j) (cap - j)) w0 := by
  refine ⟨_, rfl, fun w0 => ?_⟩
  rw [run_slice_l (P := Try.prog) w0 65 _ n cap Try.underlying65 .i64 j (by omega) (by omega), size_one]
  by_cases h : cap = j
  · simp [Result.andThen, sliced, h]
  · simp [Result.andThen, sliced, h, WideShapes.add_plain]
theorem src_front {w : World} {b e g len cap : Nat} {xs : List La} (h : w.ownsRow b e 3 (.slice (some ⟨g, 0, none⟩) len cap) xs.length (row false xs)) (k : Nat) : ∀ j u, (row false (xs.take k))[j]? = some u → w.cell? ((⟨g, 0, none⟩ : Addr).add j) = some u := by
  intro j u hu
  rw [WideShapes.add_plain, Nat.zero_add]
  rw [← row_take, List.getElem?_take] at hu
  split at hu
  · have hj := (List.getElem?_eq_some_iff.1 hu).1
    rw [row_length] at hj
    rcases h.2 with ⟨h', _⟩ | ⟨g', cap', cur, h', hb, hg, hc, hm, hs, ht⟩
    · simp at h'
    · simp only [Value.slice.injEq, Option.some.injEq, Addr.mk.injEq, and_true] at h'
      obtain ⟨rfl, rfl, rfl⟩ := h'
      have h2 : w.ownsRow b e 3 (.slice (some ⟨g, 0, none⟩) xs.length cap) xs.length (row false xs) := ⟨h.1, .inr ⟨g, cap, cur, rfl, hb, hg, hc, hm, hs, ht⟩⟩
      exact (h2.cellAt j hj).trans hu
  · cases hu
theorem src_back {w : World} {b e g len cap : Nat} {xs : List La} (h : w.ownsRow b e 3 (.slice (some ⟨g, 0, none⟩) len cap) xs.length (row false xs)) (hc : xs.length ≤ cap) (k : Nat) {A : Addr} (hA : A = (if cap = k then ⟨g, 0, none⟩ else ⟨g, k * 3, none⟩)) : ∀ j u, (row false (xs.drop k))[j]? = some u → w.cell? (A.add j) = some u := by
  intro j u hu
  have hj := (List.getElem?_eq_some_iff.1 hu).1
  rw [row_length, List.length_drop] at hj
  rw [hA, if_neg (by omega), WideShapes.add_plain]
  rw [← row_drop, List.getElem?_drop] at hu
  rcases h.2 with ⟨h', _⟩ | ⟨g', cap', cur, h', hb, hg, hc, hm, hs, ht⟩
  · simp at h'
  · simp only [Value.slice.injEq, Option.some.injEq, Addr.mk.injEq, and_true] at h'
    obtain ⟨rfl, rfl, rfl⟩ := h'
    have h2 : w.ownsRow b e 3 (.slice (some ⟨g, 0, none⟩) xs.length cap) xs.length (row false xs) := ⟨h.1, .inr ⟨g, cap, cur, rfl, hb, hg, hc, hm, hs, ht⟩⟩
    exact (h2.cellAt _ (by omega)).trans hu

end Go.Proofs.Ytihfcmcpapgokaa
