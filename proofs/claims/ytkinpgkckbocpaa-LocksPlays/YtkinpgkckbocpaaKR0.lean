/-
  The document's table: a row of locks; what it says of who holds what; appends to rows of cells.
-/
import Derived.Test.YtkinpgkckbocpaaKAsk
import Derived.Test.YtkinpgkckbocpaaQPut
import Derived.Deep.RegionLaw
namespace Go.Proofs.Ytkinpgkckbocpaa
open Go.RowKit

/-- One lock. -/
structure Lo where
  t : List UInt8
  c : List UInt8
  w : Bool
/-- The locks say just what h says. -/
structure Rep (xs : List Lo) (h : Lk) : Prop where
  yes : ∀ z ∈ xs, h z.c z.t = some z.w
  all : ∀ c y, h c y ≠ none → ∃ z ∈ xs, z.c = c ∧ z.t = y
theorem Rep.nil : Rep [] (fun _ _ => none) := ⟨fun z hz => by simp at hz, fun c y e => absurd rfl e⟩
theorem Rep.ill {xs : List Lo} {h : Lk} (r : Rep xs h) {x c : List UInt8} {wr : Bool} : Ill h x c wr ↔ ∃ z ∈ xs, z.t ≠ x ∧ z.c = c ∧ (z.w = true ∨ wr = true) := by
  constructor
  · rintro ⟨y, v, h1, h2, h3⟩
    obtain ⟨z, hz, rfl, rfl⟩ := r.all c y (by rw [h2]; simp)
    have := r.yes z hz
    rw [h2] at this
    cases this
    exact ⟨z, hz, h1, rfl, h3⟩
  · rintro ⟨z, hz, h1, rfl, h3⟩
    exact ⟨z.t, z.w, h1, r.yes z hz, h3⟩
/-- What one round of Take leaves of a lock. -/
def lup (x c : List UInt8) (wr : Bool) (z : Lo) : Lo := if z.t = x ∧ z.c = c then ⟨z.t, z.c, z.w || wr⟩ else z
/-- .. and of all. -/
def lgive (xs : List Lo) (x c : List UInt8) (wr : Bool) : List Lo := xs.map (lup x c wr) ++ (if xs.any (fun z => decide (z.t = x ∧ z.c = c)) = true then [] else [⟨x, c, wr⟩])
theorem lup_tc (x c : List UInt8) (wr : Bool) (z : Lo) : (lup x c wr z).t = z.t ∧ (lup x c wr z).c = z.c := by
  unfold lup
  split <;> exact ⟨rfl, rfl⟩
theorem Rep.give {xs : List Lo} {h : Lk} (r : Rep xs h) (x c : List UInt8) (wr : Bool) : Rep (lgive xs x c wr) (give h x c wr) := by
  constructor
  · intro z hz
    rcases List.mem_append.1 hz with hz | hz
    · obtain ⟨y, hy, rfl⟩ := List.mem_map.1 hz
      rw [(lup_tc x c wr y).1, (lup_tc x c wr y).2]
      unfold lup
      by_cases e : y.t = x ∧ y.c = c
      · rw [if_pos e]
        obtain ⟨rfl, rfl⟩ := e
        rw [give_self, r.yes y hy]
        rfl
      · rw [if_neg e, give_other _ _ _ _ (fun q => e ⟨q.2, q.1⟩)]
        exact r.yes y hy
    · split at hz
      · simp at hz
      · rename_i hn
        simp only [List.mem_singleton] at hz
        subst hz
        rw [give_self]
        have : h c x = none := Classical.byContradiction fun hh => by
          obtain ⟨z, hz, e1, e2⟩ := r.all c x hh
          exact hn (List.any_eq_true.2 ⟨z, hz, by simp [e1, e2]⟩)
        rw [this]
        simp
  · intro c' y hn
    rcases give_none.1 hn with h1 | ⟨rfl, rfl⟩
    · obtain ⟨z, hz, e1, e2⟩ := r.all c' y h1
      exact ⟨lup x c wr z, List.mem_append_left _ (List.mem_map.2 ⟨z, hz, rfl⟩), by rw [(lup_tc x c wr z).2, e1], by rw [(lup_tc x c wr z).1, e2]⟩
    · by_cases ha : xs.any (fun z => decide (z.t = y ∧ z.c = c')) = true
      · obtain ⟨z, hz, e⟩ := List.any_eq_true.1 ha
        simp only [decide_eq_true_eq] at e
        exact ⟨lup y c' wr z, List.mem_append_left _ (List.mem_map.2 ⟨z, hz, rfl⟩), by rw [(lup_tc y c' wr z).2, e.2], by rw [(lup_tc y c' wr z).1, e.1]⟩
      · exact ⟨⟨y, c', wr⟩, List.mem_append_right _ (by rw [if_neg ha]; simp), rfl, rfl⟩
theorem lgive_length (xs : List Lo) (x c : List UInt8) (wr : Bool) : (lgive xs x c wr).length ≤ xs.length + 1 := by
  unfold lgive
  rw [List.length_append, List.length_map]
  split <;> simp
theorem Rep.freed {xs : List Lo} {h : Lk} (r : Rep xs h) (x : List UInt8) : Rep (xs.filter (fun z => decide (z.t ≠ x))) (freed h x) := by
  constructor
  · intro z hz
    rw [List.mem_filter] at hz
    have hne : z.t ≠ x := by simpa using hz.2
    unfold Proofs.Ytkinpgkckbocpaa.freed
    rw [if_neg hne]
    exact r.yes z hz.1
  · intro c y hn
    obtain ⟨h1, h2⟩ := freed_none.1 hn
    obtain ⟨z, hz, e1, e2⟩ := r.all c y h1
    exact ⟨z, List.mem_filter.2 ⟨hz, by simpa [e2] using h2⟩, e1, e2⟩
theorem Rep.some1 {xs : List Lo} {h : Lk} (r : Rep xs h) (x : List UInt8) : (xs.filter (fun z => decide (z.t ≠ x))).length < xs.length ↔ Some1 h x := by
  rw [List.length_filter_lt_length_iff_exists]
  constructor
  · rintro ⟨z, hz, e⟩
    have e' : z.t = x := by simpa using e
    exact ⟨z.c, by rw [← e', r.yes z hz]; simp⟩
  · rintro ⟨c, hc⟩
    obtain ⟨z, hz, _, e2⟩ := r.all c x hc
    exact ⟨z, hz, by simp [e2]⟩

/-- The cells of a lock. -/
def lk3 (z : Lo) : List Value := [.string ⟨z.t.toArray⟩, .string ⟨z.c.toArray⟩, .bool z.w]
def row3 (xs : List Lo) : List Value := xs.flatMap lk3
theorem row3_length (xs : List Lo) : (row3 xs).length = xs.length * 3 := by
  induction xs with
  | nil => rfl
  | cons x xs ih => simp [row3, lk3] at ih ⊢; omega
theorem row3_append (xs ys : List Lo) : row3 (xs ++ ys) = row3 xs ++ row3 ys := by simp [row3]
theorem row3_get : ∀ (xs : List Lo) (k : Nat) (h : k < xs.length) (j : Nat), j < 3 → (row3 xs)[k * 3 + j]? = (lk3 xs[k])[j]?
  | x :: xs, 0, _, j, hj => by
    show (lk3 x ++ row3 xs)[0 * 3 + j]? = _
    rw [Nat.zero_mul, Nat.zero_add, List.getElem?_append_left (by simpa [lk3] using hj)]
    rfl
  | x :: xs, k + 1, h, j, hj => by
    have := row3_get xs k (by simpa using h) j hj
    show (lk3 x ++ row3 xs)[(k + 1) * 3 + j]? = _
    rw [show (k + 1) * 3 + j = 3 + (k * 3 + j) by omega, List.getElem?_append_right (by simp [lk3])]
    simpa [lk3] using this
theorem row3_one (xs : List Lo) : ∀ u ∈ row3 xs, u.oneCell' = true := by
  intro u hu
  obtain ⟨x, _, hm⟩ := List.mem_flatMap.1 hu
  simp [lk3] at hm
  rcases hm with rfl | rfl | rfl <;> rfl
theorem row3_set : ∀ (xs : List Lo) (k : Nat) (h : k < xs.length) (b : Bool), (row3 xs).set (k * 3 + 2) (.bool b) = row3 (xs.set k ⟨xs[k].t, xs[k].c, b⟩)
  | x :: xs, 0, _, b => by simp [row3, lk3]
  | x :: xs, k + 1, h, b => by
    have := row3_set xs k (by simpa using h) b
    show (lk3 x ++ row3 xs).set ((k + 1) * 3 + 2) (.bool b) = lk3 x ++ row3 (xs.set k _)
    rw [List.set_append_right _ _ (by simp [lk3]; omega), show (k + 1) * 3 + 2 - (lk3 x).length = k * 3 + 2 by simp [lk3]; omega, this]
    rfl

/-- An append of one element's cells that lie in a block by themselves. -/
theorem append_cells {T e sz by' : Nat} {z : Value} (hT : Try.prog.underlying T = some (.slice e)) (hI : (Try.prog.info? e).map (fun i => (i.zero, i.size, i.bytes)) = some (some z, sz, by')) (hz : z.cells.size = sz) (hsz : 0 < sz) (hby : by' ≤ 64)
    (w : World) (ty : TypeId) (base : Nat) (v : Value) (n : Nat) (xs : List Value) (hown : w.ownsRow base e sz v n xs) (hb : base ≤ w.heap.size) (G : Nat) (news : List Value) (hnl : news.length = sz) (hone : ∀ u ∈ news, u.oneCell' = true) (fr : Nat × Nat) (hG : w.heap[G]? = some (.cells news.toArray e fr)) (hm : n ≤ 10000) :
    ∃ ao' cap' w', (Builtin.append_ #[T, T] ty #[v, .slice (some ⟨G, 0, none⟩) 1 1]).run Try.prog w = .ok (.slice ao' (n + 1) cap') w' ∧ w'.ownsRow base e sz (.slice ao' (n + 1) cap') (n + 1) (xs ++ news) ∧ w.grownBy w' v.ownBlock ∧
      ((Value.slice ao' (n + 1) cap').ownBlock = v.ownBlock ∨ (Value.slice ao' (n + 1) cap').ownBlock = some w.heap.size) := by
  obtain ⟨i, hi, hz0, hz1, hz2⟩ := info_parts hI
  obtain ⟨v', w', hr, h2, h3, _, h5⟩ := run_append_own_at (P := Try.prog) w base T ty e i z sz by' hT hi hz0 hz1 hz2 hz hsz v n xs hown ⟨G, 0, none⟩ 1 1 news (by omega) (World.news_of_block (w := w) hG) hone (by unfold maxLen; omega) (Nat.le_trans (Nat.mul_le_mul (by omega : n + 1 ≤ 10001) hby) (by decide)) hb
  obtain ⟨ao', cap', rfl⟩ := own_shape_any h2
  exact ⟨ao', cap', w', hr, h2, h3, h5⟩
theorem wpList_append_cells {T e sz by' : Nat} {z : Value} {w : World} {ops : Array Oper} {rest : List Oper} {o : Oper} {a : Act} {Q : Exit → Act → World → Prop} (hT : Try.prog.underlying T = some (.slice e)) (hI : (Try.prog.info? e).map (fun i => (i.zero, i.size, i.bytes)) = some (some z, sz, by')) (hz : z.cells.size = sz) (hsz : 0 < sz) (hby : by' ≤ 64)
    (hgd : o.guard = none) (sl y : Operand) (ho : o.op = .call { callee := .builtin .append, args := #[sl, y], argTypes := #[T, T] })
    (base : Nat) (v : Value) (n : Nat) (xs : List Value) (hs : a.eval sl = v) (hown : w.ownsRow base e sz v n xs) (hb : base ≤ w.heap.size) (G : Nat) (hy : a.eval y = .slice (some ⟨G, 0, none⟩) 1 1) (news : List Value) (hnl : news.length = sz) (hone : ∀ u ∈ news, u.oneCell' = true) (fr : Nat × Nat) (hG : w.heap[G]? = some (.cells news.toArray e fr)) (hm : n ≤ 10000)
    (h : ∀ ao' cap' w', w'.ownsRow base e sz (.slice ao' (n + 1) cap') (n + 1) (xs ++ news) → w.grownBy w' v.ownBlock → ((Value.slice ao' (n + 1) cap').ownBlock = v.ownBlock ∨ (Value.slice ao' (n + 1) cap').ownBlock = some w.heap.size) → wpList Try.prog ops Q rest (a.put o.dst (.slice ao' (n + 1) cap')) w') : wpList Try.prog ops Q (o :: rest) a w := by
  refine wpList_plain hgd fun K hK => ?_
  obtain ⟨ao', cap', w', hr, h2, h3, h4⟩ := append_cells hT hI hz hsz hby w o.type base v n xs hown hb G news hnl hone fr hG hm
  unfold Oper.wp execOp
  simp only [ho, resolve, invoke, builtin, Sem.run_bind, Sem.run_pure, Result.andThen_ok, List.map_toArray, List.map_cons, List.map_nil, hs, hy, hr]
  exact hK _ _ (h ao' cap' w' h2 h3 h4)
theorem step_append_cells {T e sz by' : Nat} {z : Value} {w : World} {ops : Array Oper} {o : Oper} {a : Act} {K : Act → World → Prop} {Q : Exit → Act → World → Prop} {E : Prop} (hT : Try.prog.underlying T = some (.slice e)) (hI : (Try.prog.info? e).map (fun i => (i.zero, i.size, i.bytes)) = some (some z, sz, by')) (hz : z.cells.size = sz) (hsz : 0 < sz) (hby : by' ≤ 64)
    (hgd : o.guard = none) (sl y : Operand) (ho : o.op = .call { callee := .builtin .append, args := #[sl, y], argTypes := #[T, T] })
    (base : Nat) (v : Value) (n : Nat) (xs : List Value) (hs : a.eval sl = v) (hown : w.ownsRow base e sz v n xs) (hb : base ≤ w.heap.size) (G : Nat) (hy : a.eval y = .slice (some ⟨G, 0, none⟩) 1 1) (news : List Value) (hnl : news.length = sz) (hone : ∀ u ∈ news, u.oneCell' = true) (fr : Nat × Nat) (hG : w.heap[G]? = some (.cells news.toArray e fr)) (hm : n ≤ 10000)
    (h : ∀ ao' cap' w', w'.ownsRow base e sz (.slice ao' (n + 1) cap') (n + 1) (xs ++ news) → w.grownBy w' v.ownBlock → ((Value.slice ao' (n + 1) cap').ownBlock = v.ownBlock ∨ (Value.slice ao' (n + 1) cap').ownBlock = some w.heap.size) → K (a.put o.dst (.slice ao' (n + 1) cap')) w') : if Region.wanted o (yielded ops a.tmps) = true then Oper.wp Try.prog o a w K Q else E := by
  have hw : Region.wanted o (yielded ops a.tmps) = true := by simp [Region.wanted, hgd]
  rw [if_pos hw]
  obtain ⟨ao', cap', w', hr, h2, h3, h4⟩ := append_cells hT hI hz hsz hby w o.type base v n xs hown hb G news hnl hone fr hG hm
  unfold Oper.wp execOp
  simp only [ho, resolve, invoke, builtin, Sem.run_bind, Sem.run_pure, Result.andThen_ok, List.map_toArray, List.map_cons, List.map_nil, hs, hy, hr]
  exact h ao' cap' w' h2 h3 h4
theorem Try.infoLock : (Try.prog.info? 69).map (fun i => (i.zero, i.size, i.bytes)) = some (some (.agg #[.string .empty, .string .empty, .bool false]), 3, 40) := by kernel_rfl
theorem Try.infoRWant : (Try.prog.info? 67).map (fun i => (i.zero, i.size, i.bytes)) = some (some (.agg #[.string .empty, .bool false]), 2, 24) := by kernel_rfl
theorem cells_lock : (Value.agg #[.string .empty, .string .empty, .bool false]).cells.size = 3 := by simp [Value.cells]
theorem cells_rwant : (Value.agg #[.string .empty, .bool false]).cells.size = 2 := by simp [Value.cells]

/-- The document's table in block R, behind base; v: its slice. -/
structure Rt (w : World) (base R : Nat) (v : Value) (xs : List Lo) : Prop where
  self : w.heap[R]? = some (.cells #[v] 41 (0, 0))
  own : w.ownsRow base 69 3 v xs.length (row3 xs)
  few : xs.length ≤ 1000
  low : base ≤ R
/-- What a call that turns it leaves. -/
def RS (w w' : World) (R : Nat) (v : Value) : Prop := Kept (fun k => k ≠ R ∧ v.ownBlock ≠ some k) w w'
section
variable {w w' : World} {base R : Nat} {v : Value} {xs : List Lo}
theorem Rt.ne (t : Rt w base R v xs) : v.ownBlock ≠ some R := own_typeK t.own t.self (by decide)
theorem Rt.lt (t : Rt w base R v xs) : R < w.heap.size := lt_of_block t.self
theorem own_keptK {p : Nat → Prop} {b e sz n : Nat} {ys : List Value} (h : w.ownsRow b e sz v n ys) (hk : Kept p w w') (hp : ∀ k, v.ownBlock = some k → p k) : w'.ownsRow b e sz v n ys := by
  refine ⟨h.1, ?_⟩
  rcases h.2 with h0 | ⟨g, cap, cur, rfl, hb, hh, rest⟩
  · exact .inl h0
  · exact .inr ⟨g, cap, cur, rfl, hb, (hk.block g (lt_of_block hh) (hp g rfl)).trans hh, rest⟩
theorem Rt.kept {p : Nat → Prop} (t : Rt w base R v xs) (k : Kept p w w') (hR : p R) (hp : ∀ k, v.ownBlock = some k → p k) : Rt w' base R v xs :=
  ⟨(k.block R t.lt hR).trans t.self, own_keptK t.own k hp, t.few, t.low⟩
theorem Rt.all (t : Rt w base R v xs) (k : Kept (fun _ => True) w w') : Rt w' base R v xs := t.kept k trivial (fun _ _ => trivial)
theorem Rt.calm (t : Rt w base R v xs) (k : Calm w w') : Rt w' base R v xs := by
  refine t.kept k (noMap_cells t.self) (fun b hb => ?_)
  rcases t.own.2 with ⟨rfl, _⟩ | ⟨g, cap, cur, rfl, _, hh, _⟩
  · simp [Value.ownBlock] at hb
  · obtain rfl : g = b := by simpa [Value.ownBlock] using hb
    exact noMap_cells hh
theorem Rt.cell0 (t : Rt w base R v xs) : w.cell? ⟨R, 0, none⟩ = some v ∧ w.frozen? ⟨R, 0, none⟩ = false := ⟨by simp [World.cell?, t.self], by simp [World.frozen?, t.self]⟩
theorem Rt.shape (t : Rt w base R v xs) : ∃ ao cap, v = .slice ao xs.length cap ∧ (0 < xs.length → ∃ g, ao = some ⟨g, 0, none⟩) := by
  rcases t.own.2 with ⟨rfl, h0⟩ | ⟨g, cap, cur, rfl, _⟩
  · exact ⟨none, 0, by rw [h0], fun h => by omega⟩
  · exact ⟨_, cap, rfl, fun _ => ⟨g, rfl⟩⟩
theorem own_cells {b g cap : Nat} {n : Nat} (h : w.ownsRow b 69 3 (.slice (some ⟨g, 0, none⟩) n cap) xs.length (row3 xs)) (k : Nat) (hk : k < xs.length) :
    w.cell? ⟨g, k * 3, none⟩ = some (.string ⟨(xs[k].t).toArray⟩) ∧ w.cell? ⟨g, k * 3 + 1, none⟩ = some (.string ⟨(xs[k].c).toArray⟩) ∧ w.cell? ⟨g, k * 3 + 2, none⟩ = some (.bool xs[k].w) := by
  have hn : n = xs.length := by
    rcases h.2 with ⟨h', _⟩ | ⟨g', cap', cur, h', _⟩
    · cases h'
    · injection h' with _ h' _
  subst hn
  exact ⟨(h.cellAt (k * 3 + 0) (by omega)).trans (row3_get xs k hk 0 (by omega)), (h.cellAt (k * 3 + 1) (by omega)).trans (row3_get xs k hk 1 (by omega)), (h.cellAt (k * 3 + 2) (by omega)).trans (row3_get xs k hk 2 (by omega))⟩
/-- Another slice is laid into the table. -/
theorem Rt.swap {ys : List Lo} {nv : Value} {w2 : World} (t : Rt w base R v xs) (k : Kept (fun k => v.ownBlock ≠ some k) w w2) (ho : w2.ownsRow base 69 3 nv ys.length (row3 ys)) (hm : ys.length ≤ 1000) : Rt (w2.setCell ⟨R, 0, none⟩ nv) base R nv ys ∧ RS w (w2.setCell ⟨R, 0, none⟩ nv) R v := by
  have hs : w2.heap[R]? = some (.cells #[v] 41 (0, 0)) := (k.block R t.lt t.ne).trans t.self
  have hne : nv.ownBlock ≠ some R := own_typeK ho hs (by decide)
  refine ⟨⟨by rw [heap_setCell_same w2 R 0 _ _ _ hs]; rfl, ownsRow_setCell_other ho (a := ⟨R, 0, none⟩) hne nv, hm, t.low⟩, (k.mono (fun _ _ h => h.2)).setCell (by simp) _⟩
end

end Go.Proofs.Ytkinpgkckbocpaa
