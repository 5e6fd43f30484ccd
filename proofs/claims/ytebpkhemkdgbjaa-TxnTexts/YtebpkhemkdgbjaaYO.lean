/-
  Rows of operations of one's own that are appended to; names that came in as operations that read.
-/
import Derived.Test.YtebpkhemkdgbjaaYB
import Derived.Test.YtebpkhemkdgbjaaMArgs
import Derived.Test.YtebpkhemkdgbjaaMMo
namespace Go.Proofs.Ytebpkhemkdgbjaa
open Go.RowKit

def oplay (o : Oz) : List Value := [.int .i64 o.kind, .string ⟨o.cas.toArray⟩, .string ⟨o.name.toArray⟩, .int .i64 o.n]
def orow (xs : List Oz) : List Value := xs.flatMap oplay
theorem orow_cons (x : Oz) (xs : List Oz) : orow (x :: xs) = oplay x ++ orow xs := rfl
theorem orow_length (xs : List Oz) : (orow xs).length = xs.length * 4 := by
  induction xs with
  | nil => rfl
  | cons x xs ih => rw [orow_cons]; simp [ih, oplay]; omega
theorem orow_append (xs ys : List Oz) : orow (xs ++ ys) = orow xs ++ orow ys := by simp [orow]
theorem orow_get : ∀ (xs : List Oz) (k : Nat) (h : k < xs.length) (j : Nat), j < 4 → (orow xs)[k * 4 + j]? = (oplay xs[k])[j]?
  | x :: xs, 0, _, j, hj => by
    rw [orow_cons, Nat.zero_mul, Nat.zero_add, List.getElem?_append_left (by simpa [oplay] using hj)]
    rfl
  | x :: xs, k + 1, h, j, hj => by
    have := orow_get xs k (by simpa using h) j hj
    rw [orow_cons, show (k + 1) * 4 + j = 4 + (k * 4 + j) by omega, List.getElem?_append_right (by simp [oplay]), show (oplay x).length = 4 from rfl, Nat.add_sub_cancel_left, this]
    rfl
theorem orow_one (xs : List Oz) : ∀ u ∈ orow xs, u.oneCell' = true := by
  intro u hu
  obtain ⟨x, _, hm⟩ := List.mem_flatMap.1 hu
  simp [oplay] at hm
  rcases hm with rfl | rfl | rfl | rfl <;> rfl
/-- A row of operations of one's own. -/
def Oo (w : World) (base : Nat) (v : Value) (os : List Oz) : Prop := w.ownsRow base 32 4 v os.length (orow os)
section
variable {w w' : World} {base : Nat} {v : Value} {os : List Oz}
theorem Oo.nil (w : World) (base : Nat) : Oo w base (.slice none 0 0) [] := World.ownsRow_nil _ _ _ _
theorem Oo.shape (h : Oo w base v os) : ∃ ao cap, v = .slice ao os.length cap ∧ os.length ≤ cap ∧ (0 < os.length → ∃ g, ao = some ⟨g, 0, none⟩) := by
  rcases h.2 with ⟨hv, h0⟩ | ⟨g, cap, cur, hv, _, _, hc, _⟩
  · exact ⟨none, 0, by rw [hv, h0], by omega, fun hp => by omega⟩
  · exact ⟨_, cap, hv, hc, fun _ => ⟨g, rfl⟩⟩
theorem Oo.kept {p : Nat → Prop} (h : Oo w base v os) (hk : Kept p w w') (hp : ∀ k, v.ownBlock = some k → p k) : Oo w' base v os := by
  refine ⟨h.1, ?_⟩
  rcases h.2 with h0 | ⟨g, cap, cur, rfl, hb, hh, rest⟩
  · exact .inl h0
  · exact .inr ⟨g, cap, cur, rfl, hb, (hk.block g (lt_of_block hh) (hp g rfl)).trans hh, rest⟩
theorem Oo.all (h : Oo w base v os) (hk : Kept (fun _ => True) w w') : Oo w' base v os := h.kept hk (fun _ _ => trivial)
theorem Oo.ge (h : Oo w base v os) {k : Nat} (hk : v.ownBlock = some k) : base ≤ k := (World.ownsRow.lt h k hk).1
theorem Oo.lt (h : Oo w base v os) {k : Nat} (hk : v.ownBlock = some k) : k < w.heap.size := (World.ownsRow.lt h k hk).2
theorem Oo.cells {g n cap : Nat} (h : Oo w base (.slice (some ⟨g, 0, none⟩) n cap) os) (k : Nat) (hk : k < os.length) :
    w.cell? ⟨g, k * 4, none⟩ = some (.int .i64 os[k].kind) ∧ w.cell? ⟨g, k * 4 + 1, none⟩ = some (.string ⟨(os[k]).cas.toArray⟩) ∧ w.cell? ⟨g, k * 4 + 2, none⟩ = some (.string ⟨(os[k]).name.toArray⟩) ∧ w.cell? ⟨g, k * 4 + 3, none⟩ = some (.int .i64 os[k].n) := by
  have hn : n = os.length := by
    rcases h.2 with ⟨h', _⟩ | ⟨g', cap', cur, h', _⟩
    · simp at h'
    · simp at h'
      exact h'.2.1
  subst hn
  have h2 : w.ownsRow base 32 4 (.slice (some ⟨g, 0, none⟩) os.length cap) os.length (orow os) := h
  exact ⟨(h2.cellAt _ (by omega)).trans (orow_get os k hk 0 (by omega)), (h2.cellAt _ (by omega)).trans (orow_get os k hk 1 (by omega)), (h2.cellAt _ (by omega)).trans (orow_get os k hk 2 (by omega)), (h2.cellAt _ (by omega)).trans (orow_get os k hk 3 (by omega))⟩
theorem Oo.view {ao : Option Addr} {n cap : Nat} (h : Oo w base (.slice ao n cap) os) : Ov w ao os := by
  refine ⟨fun h0 => ?_⟩
  obtain ⟨ao', cap', hv, _, hg⟩ := h.shape
  obtain ⟨g, hg⟩ := hg h0
  subst hg
  injection hv with e1 e2 e3
  subst e1
  refine ⟨g, 0, rfl, h.lt rfl, fun i hi => ?_⟩
  simp only [Nat.zero_add]
  exact h.cells i hi
end
theorem Try.infoOp : (Try.prog.info? 32).map (fun i => (i.zero, i.size, i.bytes)) = some (some (.agg #[.int .i64 0, .string ⟨#[]⟩, .string ⟨#[]⟩, .int .i64 0]), 4, 48) := by kernel_rfl
theorem wpList_append_op {w : World} {ops : Array Oper} {rest : List Oper} {o : Oper} {a : Act} {Q : Exit → Act → World → Prop}
    (hgd : o.guard = none) (sl y : Operand) (ho : o.op = .call { callee := .builtin .append, args := #[sl, y], argTypes := #[34, 34] })
    (base : Nat) (v : Value) (os : List Oz) (hs : a.eval sl = v) (h : Oo w base v os) (hb : base ≤ w.heap.size) (G : Nat) (hy : a.eval y = .slice (some ⟨G, 0, none⟩) 1 1) (x : Oz) (fr : Nat × Nat) (hG : w.heap[G]? = some (.cells #[.int .i64 x.kind, .string ⟨x.cas.toArray⟩, .string ⟨x.name.toArray⟩, .int .i64 x.n] 32 fr)) (hm : os.length ≤ 1000)
    (hK : ∀ ao' cap' w', Oo w' base (.slice ao' (os.length + 1) cap') (os ++ [x]) → w.grownBy w' v.ownBlock → wpList Try.prog ops Q rest (a.put o.dst (.slice ao' (os.length + 1) cap')) w') : wpList Try.prog ops Q (o :: rest) a w := by
  refine wpList_plain hgd fun K hK' => ?_
  obtain ⟨i, hi, hz0, hz1, hz2⟩ := info_parts Try.infoOp
  have hG' : w.heap[G]? = some (.cells (orow [x]).toArray 32 fr) := by rw [hG]; simp [orow, oplay]
  obtain ⟨v', w', hr, h2, h3, _, h5⟩ := run_append_own_at (P := Try.prog) w base 34 o.type 32 i (.agg #[.int .i64 0, .string ⟨#[]⟩, .string ⟨#[]⟩, .int .i64 0]) 4 48 Try.underlying34 hi hz0 hz1 hz2 rfl (by decide) v os.length (orow os) h ⟨G, 0, none⟩ 1 1 (orow [x]) (by rw [orow_length]; rfl) (World.news_of_block (w := w) hG') (orow_one [x]) (by unfold maxLen; omega) (by omega) hb
  obtain ⟨ao', cap', rfl⟩ : ∃ ao cap, v' = .slice ao (os.length + 1) cap := by
    rcases h2.2 with ⟨e, h0⟩ | ⟨g, cap, _, e, _⟩
    · omega
    · exact ⟨_, _, e⟩
  have h2' : Oo w' base (.slice ao' (os.length + 1) cap') (os ++ [x]) := by
    unfold Oo
    rw [orow_append, List.length_append]
    exact h2
  unfold Oper.wp execOp
  simp only [ho, resolve, invoke, builtin, Sem.run_bind, Sem.run_pure, Result.andThen_ok, List.map_toArray, List.map_cons, List.map_nil, hs, hy, hr]
  exact hK' _ _ (hK ao' cap' w' h2' h3)

def rd1 (s : List UInt8) : Oz := ⟨5, s, [], 0⟩
/-- The operations that read the first names. -/
def rds (ss : List (List UInt8)) (k : Nat) : List Oz := (ss.take k).map rd1
theorem rds_zero (ss : List (List UInt8)) : rds ss 0 = [] := rfl
theorem rds_succ (ss : List (List UInt8)) (k : Nat) (h : k < ss.length) : rds ss (k + 1) = rds ss k ++ [rd1 ss[k]] := by
  unfold rds
  rw [List.take_succ_eq_append_getElem h, List.map_append]
  rfl
theorem rds_length (ss : List (List UInt8)) (k : Nat) (h : k ≤ ss.length) : (rds ss k).length = k := by simp [rds]; omega
theorem rds_mem {ss : List (List UInt8)} {k : Nat} {o : Oz} (h : o ∈ rds ss k) : ∃ s ∈ ss, o = rd1 s := by
  obtain ⟨s, hs, rfl⟩ := List.mem_map.1 h
  exact ⟨s, List.mem_of_mem_take hs, rfl⟩

end Go.Proofs.Ytebpkhemkdgbjaa
