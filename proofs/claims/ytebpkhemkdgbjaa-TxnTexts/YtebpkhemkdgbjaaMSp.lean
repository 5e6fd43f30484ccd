/-
  Split plainly; slices of numbers, and of slices of numbers, in memory; operations that are looked at.
-/
import Derived.Test.YtebpkhemkdgbjaaM5
import Derived.Test.YtebpkhemkdgbjaaPInts
import Derived.Test.YtebpkhemkdgbjaaPArr
namespace Go.Proofs.Ytebpkhemkdgbjaa
open Go.RowKit

/-- An operation. -/
structure Oz where
  kind : Int
  cas : List UInt8
  name : List UInt8
  n : Int
/-- Operations that are looked at. -/
structure Ov (w : World) (ao : Option Addr) (os : List Oz) : Prop where
  row : 0 < os.length → ∃ b off, ao = some ⟨b, off, none⟩ ∧ b < w.heap.size ∧ ∀ i (h : i < os.length), w.cell? ⟨b, off + i * 4, none⟩ = some (.int .i64 os[i].kind) ∧ w.cell? ⟨b, off + i * 4 + 1, none⟩ = some (.string ⟨(os[i]).cas.toArray⟩) ∧ w.cell? ⟨b, off + i * 4 + 2, none⟩ = some (.string ⟨(os[i]).name.toArray⟩) ∧ w.cell? ⟨b, off + i * 4 + 3, none⟩ = some (.int .i64 os[i].n)
theorem Ov.all {w w' : World} {ao : Option Addr} {os : List Oz} (h : Ov w ao os) (k : Kept (fun _ => True) w w') : Ov w' ao os := by
  refine ⟨fun h0 => ?_⟩
  obtain ⟨b, off, e, hb, hc⟩ := h.row h0
  refine ⟨b, off, e, Nat.lt_of_lt_of_le hb k.size, fun i hi => ?_⟩
  obtain ⟨c0, c1, c2, c3⟩ := hc i hi
  exact ⟨(kept_cell k hb trivial).trans c0, (kept_cell k hb trivial).trans c1, (kept_cell k hb trivial).trans c2, (kept_cell k hb trivial).trans c3⟩
theorem Ov.take {w : World} {ao : Option Addr} {os : List Oz} (h : Ov w ao os) (n : Nat) : Ov w ao (os.take n) := by
  refine ⟨fun h0 => ?_⟩
  have hl : (os.take n).length ≤ os.length := by simp; omega
  obtain ⟨b, off, e, hb, hc⟩ := h.row (by omega)
  refine ⟨b, off, e, hb, fun i hi => ?_⟩
  have := hc i (by omega)
  simpa using this

/-- The first n places of which h tells g. -/
def idx (h : Nat → Int) (n : Nat) (g : Nat) : List Nat := (List.range n).filter fun k => decide (h k = (g : Int))
theorem idx_zero (h : Nat → Int) (g : Nat) : idx h 0 g = [] := rfl
theorem idx_yes (h : Nat → Int) (n g : Nat) (e : h n = (g : Int)) : idx h (n + 1) g = idx h n g ++ [n] := by
  unfold idx
  rw [List.range_succ, List.filter_append]
  simp [e]
theorem idx_no (h : Nat → Int) (n g : Nat) (e : h n ≠ (g : Int)) : idx h (n + 1) g = idx h n g := by
  unfold idx
  rw [List.range_succ, List.filter_append]
  simp [e]
theorem idx_most (h : Nat → Int) (n g : Nat) : (idx h n g).length ≤ n := by
  have := List.length_filter_le (fun k => decide (h k = (g : Int))) (List.range n)
  simpa [idx] using this
theorem idx_congr {h h' : Nat → Int} {n g : Nat} (e : ∀ k, k < n → h k = h' k) : idx h n g = idx h' n g := by
  unfold idx
  apply List.filter_congr
  intro k hk
  rw [e k (List.mem_range.1 hk)]
theorem idx_mem {h : Nat → Int} {n g k : Nat} (hk : k ∈ idx h n g) : k < n ∧ h k = (g : Int) := by
  unfold idx at hk
  obtain ⟨h1, h2⟩ := List.mem_filter.1 hk
  exact ⟨List.mem_range.1 h1, by simpa using h2⟩
/-- The groups that have some, of the first m. -/
def grp (h : Nat → Int) (n m : Nat) : List Nat := (List.range m).filter fun g => !(idx h n g).isEmpty
theorem grp_zero (h : Nat → Int) (n : Nat) : grp h n 0 = [] := rfl
theorem grp_yes (h : Nat → Int) (n m : Nat) (e : 0 < (idx h n m).length) : grp h n (m + 1) = grp h n m ++ [m] := by
  unfold grp
  rw [List.range_succ, List.filter_append]
  have : (idx h n m).isEmpty = false := by
    cases hq : idx h n m with
    | nil => rw [hq] at e; simp at e
    | cons _ _ => rfl
  simp [this]
theorem grp_no (h : Nat → Int) (n m : Nat) (e : ¬ 0 < (idx h n m).length) : grp h n (m + 1) = grp h n m := by
  unfold grp
  rw [List.range_succ, List.filter_append]
  have : idx h n m = [] := List.eq_nil_of_length_eq_zero (by omega)
  simp [this]
theorem grp_most (h : Nat → Int) (n m : Nat) : (grp h n m).length ≤ m := by
  have := List.length_filter_le (fun g => !(idx h n g).isEmpty) (List.range m)
  simpa [grp] using this

theorem Try.infoSl : (Try.prog.info? 39).map (fun i => (i.zero, i.size, i.bytes)) = some (some (.slice none 0 0), 1, 24) := by kernel_rfl
/-- Slices in a row of one's own. -/
def Sls (w : World) (base : Nat) (v : Value) (vs : List Value) : Prop := w.ownsRow base 39 1 v vs.length vs ∧ ∀ u ∈ vs, u.oneCell' = true
theorem Sls.nil (w : World) (base : Nat) : Sls w base (.slice none 0 0) [] := ⟨World.ownsRow_nil _ _ _ _, by simp⟩
theorem Sls.kept {p : Nat → Prop} {w w' : World} {base : Nat} {v : Value} {vs : List Value} (h : Sls w base v vs) (hk : Kept p w w') (hp : ∀ k, v.ownBlock = some k → p k) : Sls w' base v vs := by
  refine ⟨⟨h.1.1, ?_⟩, h.2⟩
  rcases h.1.2 with h0 | ⟨g, cap, cur, rfl, hb, hh, rest⟩
  · exact .inl h0
  · exact .inr ⟨g, cap, cur, rfl, hb, (hk.block g (lt_of_block hh) (hp g rfl)).trans hh, rest⟩
theorem Sls.all {w w' : World} {base : Nat} {v : Value} {vs : List Value} (h : Sls w base v vs) (hk : Kept (fun _ => True) w w') : Sls w' base v vs := h.kept hk (fun _ _ => trivial)
theorem Sls.shape {w : World} {base : Nat} {v : Value} {vs : List Value} (h : Sls w base v vs) : ∃ ao cap, v = .slice ao vs.length cap := own_shape_row h.1
theorem Sls.at {w : World} {base n cap : Nat} {ao : Option Addr} {vs : List Value} (h : Sls w base (.slice ao n cap) vs) (k : Nat) (hk : k < vs.length) : ∃ g, ao = some ⟨g, 0, none⟩ ∧ w.cell? ⟨g, k, none⟩ = some vs[k] := by
  rcases h.1.2 with ⟨hv, h0⟩ | ⟨g, cap', cur, hv, _⟩
  · omega
  · injection hv with e1 e2 e3
    subst e1 e2 e3
    have h' : w.ownsRow base 39 1 (.slice (some ⟨g, 0, none⟩) vs.length cap) vs.length vs := h.1
    exact ⟨g, rfl, (h'.cellAt k (by omega)).trans (by simp [hk])⟩
theorem append_sl (w : World) (ty : TypeId) (base : Nat) (v : Value) (vs : List Value) (h : Sls w base v vs) (hb : base ≤ w.heap.size) (G : Nat) (u : Value) (hu : u.oneCell' = true) (fr : Nat × Nat) (hG : w.heap[G]? = some (.cells #[u] 39 fr)) (hm : vs.length ≤ 1000) :
    ∃ ao' cap' w', (Builtin.append_ #[61, 61] ty #[v, .slice (some ⟨G, 0, none⟩) 1 1]).run Try.prog w = .ok (.slice ao' (vs.length + 1) cap') w' ∧ Sls w' base (.slice ao' (vs.length + 1) cap') (vs ++ [u]) ∧ w.grownBy w' v.ownBlock := by
  obtain ⟨i, hi, hz0, hz1, hz2⟩ := info_parts Try.infoSl
  obtain ⟨v', w', hr, h2, h3, _, h5⟩ := run_append_own_at (P := Try.prog) w base 61 ty 39 i (.slice none 0 0) 1 24 Try.underlying61 hi hz0 hz1 hz2 rfl (by decide) v vs.length vs h.1 ⟨G, 0, none⟩ 1 1 [u] (by simp) (World.news_of_block (w := w) hG) (by simpa using hu) (by unfold maxLen; omega) (by omega) hb
  obtain ⟨ao', cap', rfl⟩ := own_shape_row h2
  refine ⟨ao', cap', w', hr, ⟨?_, ?_⟩, h3⟩
  · rw [List.length_append]
    exact h2
  · intro x hx
    rcases List.mem_append.1 hx with hx | hx
    · exact h.2 x hx
    · rw [List.mem_singleton.1 hx]; exact hu
theorem wpList_append_sl {w : World} {ops : Array Oper} {rest : List Oper} {o : Oper} {a : Act} {Q : Exit → Act → World → Prop} (hgd : o.guard = none) (sl y : Operand) (ho : o.op = .call { callee := .builtin .append, args := #[sl, y], argTypes := #[61, 61] })
    (base : Nat) (v : Value) (vs : List Value) (hs : a.eval sl = v) (h : Sls w base v vs) (hb : base ≤ w.heap.size) (G : Nat) (hy : a.eval y = .slice (some ⟨G, 0, none⟩) 1 1) (u : Value) (hu : u.oneCell' = true) (fr : Nat × Nat) (hG : w.heap[G]? = some (.cells #[u] 39 fr)) (hm : vs.length ≤ 1000)
    (hK : ∀ ao' cap' w', Sls w' base (.slice ao' (vs.length + 1) cap') (vs ++ [u]) → w.grownBy w' v.ownBlock → wpList Try.prog ops Q rest (a.put o.dst (.slice ao' (vs.length + 1) cap')) w') : wpList Try.prog ops Q (o :: rest) a w := by
  refine wpList_plain hgd fun K hK' => ?_
  obtain ⟨ao', cap', w', hr, h2, h3⟩ := append_sl w o.type base v vs h hb G u hu fr hG hm
  unfold Oper.wp execOp
  simp only [ho, resolve, invoke, builtin, Sem.run_bind, Sem.run_pure, Result.andThen_ok, List.map_toArray, List.map_cons, List.map_nil, hs, hy, hr]
  exact hK' _ _ (hK ao' cap' w' h2 h3)

end Go.Proofs.Ytebpkhemkdgbjaa
