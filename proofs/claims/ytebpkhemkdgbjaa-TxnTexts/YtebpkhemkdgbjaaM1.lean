/-
  Rows of parts in memory: the program's and the document's; appends to them and stores into them; isGroup, Right, join.
-/
import Derived.Test.YtebpkhemkdgbjaaMPlain
import Derived.Laws.OwnMore
import Derived.Deep.RegionLaw
import Derived.Deep.RegionHeldLaw
namespace Go.Proofs.Ytebpkhemkdgbjaa
open Go.RowKit

/-- The three cells of a part. -/
def play (x : Pa) : List Value := [.int .i64 x.lo, .int .i64 x.hi, .int .i64 x.g]
def prow (xs : List Pa) : List Value := xs.flatMap play
theorem prow_cons (x : Pa) (xs : List Pa) : prow (x :: xs) = play x ++ prow xs := rfl
theorem prow_length (xs : List Pa) : (prow xs).length = xs.length * 3 := by
  induction xs with
  | nil => rfl
  | cons x xs ih => rw [prow_cons]; simp [ih, play]; omega
theorem prow_append (xs ys : List Pa) : prow (xs ++ ys) = prow xs ++ prow ys := by simp [prow]
theorem prow_get : ∀ (xs : List Pa) (k : Nat) (h : k < xs.length) (j : Nat), j < 3 → (prow xs)[k * 3 + j]? = (play xs[k])[j]?
  | x :: xs, 0, _, j, hj => by
    rw [prow_cons, Nat.zero_mul, Nat.zero_add, List.getElem?_append_left (by simpa [play] using hj)]
    rfl
  | x :: xs, k + 1, h, j, hj => by
    have := prow_get xs k (by simpa using h) j hj
    rw [prow_cons, show (k + 1) * 3 + j = 3 + (k * 3 + j) by omega, List.getElem?_append_right (by simp [play]), show (play x).length = 3 from rfl, Nat.add_sub_cancel_left, this]
    rfl
theorem prow_one (xs : List Pa) : ∀ u ∈ prow xs, u.oneCell' = true := by
  intro u hu
  obtain ⟨x, _, hm⟩ := List.mem_flatMap.1 hu
  simp [play] at hm
  rcases hm with rfl | rfl | rfl <;> rfl

/-- A slice of parts that is looked at. -/
structure Pv (w : World) (ao : Option Addr) (ps : List Pa) : Prop where
  row : 0 < ps.length → ∃ b off, ao = some ⟨b, off, none⟩ ∧ b < w.heap.size ∧ ∀ i (h : i < ps.length), w.cell? ⟨b, off + i * 3, none⟩ = some (.int .i64 ps[i].lo) ∧ w.cell? ⟨b, off + i * 3 + 1, none⟩ = some (.int .i64 ps[i].hi) ∧ w.cell? ⟨b, off + i * 3 + 2, none⟩ = some (.int .i64 ps[i].g)
theorem Pv.kept {p : Nat → Prop} {w w' : World} {ao : Option Addr} {ps : List Pa} (h : Pv w ao ps) (k : Kept p w w') (hp : ∀ i, i < w.heap.size → p i) : Pv w' ao ps := by
  refine ⟨fun h0 => ?_⟩
  obtain ⟨b, off, e, hb, hc⟩ := h.row h0
  refine ⟨b, off, e, Nat.lt_of_lt_of_le hb k.size, fun i hi => ?_⟩
  obtain ⟨c0, c1, c2⟩ := hc i hi
  exact ⟨(kept_cell k hb (hp b hb)).trans c0, (kept_cell k hb (hp b hb)).trans c1, (kept_cell k hb (hp b hb)).trans c2⟩
theorem Pv.all {w w' : World} {ao : Option Addr} {ps : List Pa} (h : Pv w ao ps) (k : Kept (fun _ => True) w w') : Pv w' ao ps := h.kept k (fun _ _ => trivial)
theorem Pv.nil (w : World) (ao : Option Addr) : Pv w ao [] := ⟨fun h => by simp at h⟩

/-- A row of parts of one's own behind 'base'; e: their type. -/
def Po (e : TypeId) (w : World) (base : Nat) (v : Value) (ps : List Pa) : Prop := w.ownsRow base e 3 v ps.length (prow ps)
section
variable {e : TypeId} {w w' : World} {base : Nat} {v : Value} {ps : List Pa}
theorem Po.nil (e : TypeId) (w : World) (base : Nat) : Po e w base (.slice none 0 0) [] := World.ownsRow_nil _ _ _ _
theorem Po.shape (h : Po e w base v ps) : ∃ ao cap, v = .slice ao ps.length cap ∧ (0 < ps.length → ∃ g, ao = some ⟨g, 0, none⟩) := by
  rcases h.2 with ⟨hv, h0⟩ | ⟨g, cap, cur, hv, _⟩
  · exact ⟨none, 0, by rw [hv, h0], fun hp => by omega⟩
  · exact ⟨_, cap, hv, fun _ => ⟨g, rfl⟩⟩
theorem Po.kept {p : Nat → Prop} (h : Po e w base v ps) (hk : Kept p w w') (hp : ∀ k, v.ownBlock = some k → p k) : Po e w' base v ps := by
  refine ⟨h.1, ?_⟩
  rcases h.2 with h0 | ⟨g, cap, cur, rfl, hb, hh, rest⟩
  · exact .inl h0
  · exact .inr ⟨g, cap, cur, rfl, hb, (hk.block g (lt_of_block hh) (hp g rfl)).trans hh, rest⟩
theorem Po.all (h : Po e w base v ps) (hk : Kept (fun _ => True) w w') : Po e w' base v ps := h.kept hk (fun _ _ => trivial)
theorem Po.ge (h : Po e w base v ps) {k : Nat} (hk : v.ownBlock = some k) : base ≤ k := (World.ownsRow.lt h k hk).1
theorem Po.lt (h : Po e w base v ps) {k : Nat} (hk : v.ownBlock = some k) : k < w.heap.size := (World.ownsRow.lt h k hk).2
theorem Po.ne (h : Po e w base v ps) {B : Nat} {cs : Array Value} {t : TypeId} {fr : Nat × Nat} (hB : w.heap[B]? = some (.cells cs t fr)) (ht : t ≠ e) : v.ownBlock ≠ some B := by
  intro q
  rcases h.2 with ⟨hv, _⟩ | ⟨g, cap, cur, hv, _, hh, _⟩
  · rw [hv] at q; simp [Value.ownBlock] at q
  · rw [hv] at q; simp [Value.ownBlock] at q
    subst q
    rw [hB] at hh
    simp at hh
    exact ht hh.2.1
theorem Po.cells {g n cap : Nat} (h : Po e w base (.slice (some ⟨g, 0, none⟩) n cap) ps) (k : Nat) (hk : k < ps.length) :
    w.cell? ⟨g, k * 3, none⟩ = some (.int .i64 ps[k].lo) ∧ w.cell? ⟨g, k * 3 + 1, none⟩ = some (.int .i64 ps[k].hi) ∧ w.cell? ⟨g, k * 3 + 2, none⟩ = some (.int .i64 ps[k].g) := by
  have hn : n = ps.length := by
    rcases h.2 with ⟨h', _⟩ | ⟨g', cap', cur, h', _⟩
    · simp at h'
    · simp at h'
      exact h'.2.1
  subst hn
  have h2 : w.ownsRow base e 3 (.slice (some ⟨g, 0, none⟩) ps.length cap) ps.length (prow ps) := h
  exact ⟨(h2.cellAt _ (by omega)).trans (prow_get ps k hk 0 (by omega)), (h2.cellAt _ (by omega)).trans (prow_get ps k hk 1 (by omega)), (h2.cellAt _ (by omega)).trans (prow_get ps k hk 2 (by omega))⟩
theorem Po.view {ao : Option Addr} {n cap : Nat} (h : Po e w base (.slice ao n cap) ps) : Pv w ao ps := by
  refine ⟨fun h0 => ?_⟩
  obtain ⟨ao', cap', hv, hg⟩ := h.shape
  obtain ⟨g, hg⟩ := hg h0
  subst hg
  injection hv with e1 e2 e3
  subst e1
  refine ⟨g, 0, rfl, h.lt rfl, fun i hi => ?_⟩
  simp only [Nat.zero_add]
  exact h.cells i hi
/-- The last part gets another end. -/
theorem Po.last {g n cap : Nat} {xs : List Pa} {q : Pa} (h : Po e w base (.slice (some ⟨g, 0, none⟩) n cap) (xs ++ [q])) (y : Int) :
    Po e (w.setCell ⟨g, xs.length * 3 + 1, none⟩ (.int .i64 y)) base (.slice (some ⟨g, 0, none⟩) n cap) (xs ++ [⟨q.lo, y, q.g⟩]) ∧ w.frozen? ⟨g, xs.length * 3 + 1, none⟩ = false := by
  have hn : n = (xs ++ [q]).length := by
    rcases h.2 with ⟨h', _⟩ | ⟨g', cap', cur, h', _⟩
    · simp at h'
    · simp at h'
      simpa using h'.2.1
  subst hn
  have h2 : w.ownsRow base e 3 (.slice (some ⟨g, 0, none⟩) (xs ++ [q]).length cap) (xs ++ [q]).length (prow (xs ++ [q])) := h
  refine ⟨?_, h2.frozenAt _⟩
  have h3 := (h2.stored (xs.length * 3 + 1) (.int .i64 y)).1
  have e1 : (prow (xs ++ [q])).set (xs.length * 3 + 1) (.int .i64 y) = prow (xs ++ [⟨q.lo, y, q.g⟩]) := by
    rw [prow_append, prow_append, List.set_append_right _ _ (by rw [prow_length]; omega), prow_length, Nat.add_sub_cancel_left]
    rfl
  rw [e1] at h3
  have e2 : (xs ++ [q]).length = (xs ++ [(⟨q.lo, y, q.g⟩ : Pa)]).length := by simp
  unfold Po
  rw [← e2]
  exact h3
end

theorem Try.infoPa : (Try.prog.info? 79).map (fun i => (i.zero, i.size, i.bytes)) = some (some (.agg #[.int .i64 0, .int .i64 0, .int .i64 0]), 3, 24) := by kernel_rfl

/-- An append of one part that lies in a block by itself. T: the slice's type, e: the part's. -/
theorem append_pa {T e : Nat} {z : Value} (hT : Try.prog.underlying T = some (.slice e)) (hI : (Try.prog.info? e).map (fun i => (i.zero, i.size, i.bytes)) = some (some z, 3, 24)) (hz : z.cells.size = 3)
    (w : World) (ty : TypeId) (base : Nat) (v : Value) (n : Nat) (ps : List Pa) (hn : ps.length = n) (hown : Po e w base v ps) (hb : base ≤ w.heap.size) (G : Nat) (x : Pa) (fr : Nat × Nat) (hG : w.heap[G]? = some (.cells #[.int .i64 x.lo, .int .i64 x.hi, .int .i64 x.g] e fr)) (hm : n ≤ 5864062014804) :
    ∃ ao' cap' w', (Builtin.append_ #[T, T] ty #[v, .slice (some ⟨G, 0, none⟩) 1 1]).run Try.prog w = .ok (.slice ao' (n + 1) cap') w' ∧ Po e w' base (.slice ao' (n + 1) cap') (ps ++ [x]) ∧ w.grownBy w' v.ownBlock ∧ ((Value.slice ao' (n + 1) cap').ownBlock = v.ownBlock ∨ (Value.slice ao' (n + 1) cap').ownBlock = some w.heap.size) := by
  obtain ⟨i, hi, hz0, hz1, hz2⟩ := info_parts hI
  subst hn
  have hG' : w.heap[G]? = some (.cells (prow [x]).toArray e fr) := by rw [hG]; simp [prow, play]
  obtain ⟨v', w', hr, h2, h3, _, h5⟩ := run_append_own_at (P := Try.prog) w base T ty e i z 3 24 hT hi hz0 hz1 hz2 hz (by decide) v ps.length (prow ps) hown ⟨G, 0, none⟩ 1 1 (prow [x]) (by rw [prow_length]; rfl) (World.news_of_block (w := w) hG') (prow_one [x]) (by unfold maxLen; omega) (by omega) hb
  obtain ⟨ao', cap', rfl⟩ : ∃ ao cap, v' = .slice ao (ps.length + 1) cap := by
    rcases h2.2 with ⟨e, h0⟩ | ⟨g, cap, _, e, _⟩
    · omega
    · exact ⟨_, _, e⟩
  refine ⟨ao', cap', w', hr, ?_, h3, h5⟩
  unfold Po
  rw [prow_append, List.length_append]
  exact h2
theorem wpList_append_pa {T e : Nat} {z : Value} {w : World} {ops : Array Oper} {rest : List Oper} {o : Oper} {a : Act} {Q : Exit → Act → World → Prop} (hT : Try.prog.underlying T = some (.slice e)) (hI : (Try.prog.info? e).map (fun i => (i.zero, i.size, i.bytes)) = some (some z, 3, 24)) (hz : z.cells.size = 3)
    (hgd : o.guard = none) (sl y : Operand) (ho : o.op = .call { callee := .builtin .append, args := #[sl, y], argTypes := #[T, T] })
    (base : Nat) (v : Value) (n : Nat) (ps : List Pa) (hs : a.eval sl = v) (hn : ps.length = n) (hown : Po e w base v ps) (hb : base ≤ w.heap.size) (G : Nat) (hy : a.eval y = .slice (some ⟨G, 0, none⟩) 1 1) (x : Pa) (fr : Nat × Nat) (hG : w.heap[G]? = some (.cells #[.int .i64 x.lo, .int .i64 x.hi, .int .i64 x.g] e fr)) (hm : n ≤ 5864062014804)
    (h : ∀ ao' cap' w', Po e w' base (.slice ao' (n + 1) cap') (ps ++ [x]) → w.grownBy w' v.ownBlock → ((Value.slice ao' (n + 1) cap').ownBlock = v.ownBlock ∨ (Value.slice ao' (n + 1) cap').ownBlock = some w.heap.size) → wpList Try.prog ops Q rest (a.put o.dst (.slice ao' (n + 1) cap')) w') : wpList Try.prog ops Q (o :: rest) a w := by
  refine wpList_plain hgd fun K hK => ?_
  obtain ⟨ao', cap', w', hr, h2, h3, h4⟩ := append_pa hT hI hz w o.type base v n ps hn hown hb G x fr hG hm
  unfold Oper.wp execOp
  simp only [ho, resolve, invoke, builtin, Sem.run_bind, Sem.run_pure, Result.andThen_ok, List.map_toArray, List.map_cons, List.map_nil, hs, hy, hr]
  exact hK _ _ (h ao' cap' w' h2 h3 h4)

theorem step_append_pa {T e : Nat} {z : Value} {w : World} {ops : Array Oper} {o : Oper} {a : Act} {K : Act → World → Prop} {Q : Exit → Act → World → Prop} {E : Prop} (hT : Try.prog.underlying T = some (.slice e)) (hI : (Try.prog.info? e).map (fun i => (i.zero, i.size, i.bytes)) = some (some z, 3, 24)) (hz : z.cells.size = 3)
    (hgd : o.guard = none) (sl y : Operand) (ho : o.op = .call { callee := .builtin .append, args := #[sl, y], argTypes := #[T, T] })
    (base : Nat) (v : Value) (n : Nat) (ps : List Pa) (hs : a.eval sl = v) (hn : ps.length = n) (hown : Po e w base v ps) (hb : base ≤ w.heap.size) (G : Nat) (hy : a.eval y = .slice (some ⟨G, 0, none⟩) 1 1) (x : Pa) (fr : Nat × Nat) (hG : w.heap[G]? = some (.cells #[.int .i64 x.lo, .int .i64 x.hi, .int .i64 x.g] e fr)) (hm : n ≤ 5864062014804)
    (h : ∀ ao' cap' w', Po e w' base (.slice ao' (n + 1) cap') (ps ++ [x]) → w.grownBy w' v.ownBlock → ((Value.slice ao' (n + 1) cap').ownBlock = v.ownBlock ∨ (Value.slice ao' (n + 1) cap').ownBlock = some w.heap.size) → K (a.put o.dst (.slice ao' (n + 1) cap')) w') : if Region.wanted o (yielded ops a.tmps) = true then Oper.wp Try.prog o a w K Q else E := by
  have hw : Region.wanted o (yielded ops a.tmps) = true := by simp [Region.wanted, hgd]
  rw [if_pos hw]
  obtain ⟨ao', cap', w', hr, h2, h3, h4⟩ := append_pa hT hI hz w o.type base v n ps hn hown hb G x fr hG hm
  unfold Oper.wp execOp
  simp only [ho, resolve, invoke, builtin, Sem.run_bind, Sem.run_pure, Result.andThen_ok, List.map_toArray, List.map_cons, List.map_nil, hs, hy, hr]
  exact h ao' cap' w' h2 h3 h4

theorem isGroup_any {w : World} (g : Int) : Calls Try.prog 53 #[.int .i64 g] w fun e w' => e = .returned (.bool (isG g)) ∧ w' = w := by
  unfold isG
  by_cases h0 : 0 ≤ g
  · by_cases h1 : g < 3
    · go_enter Try.func53, Try.ntmps53
      go_wp2
      go_ret
      simp [h0, h1]
    · go_enter Try.func53, Try.ntmps53
      go_wp2
      go_ret
      simp [h1]
  · go_enter Try.func53, Try.ntmps53
    go_wp2
    go_ret
    simp [show ¬ (0 ≤ g) by omega]

end Go.Proofs.Ytebpkhemkdgbjaa
