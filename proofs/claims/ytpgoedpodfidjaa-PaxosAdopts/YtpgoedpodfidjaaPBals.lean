/-
  Slices of ballots.
-/
import Derived.Test.YtpgoedpodfidjaaPInts
import Derived.Test.YtpgoedpodfidjaaBPlain
import Derived.Test.YtpgoedpodfidjaaB3
namespace Go.Proofs.Ytpgoedpodfidjaa
open Go.RowKit

/-- A slice of len ballots that came in. -/
def IsBals (w : World) (a : Option Addr) (len : Nat) : Prop := ∀ i, i < len → ∃ b off r n, a = some ⟨b, off, none⟩ ∧ b < w.heap.size ∧ w.cell? ⟨b, off + i * 2, none⟩ = some (.int .i64 r) ∧ w.cell? ⟨b, off + i * 2 + 1, none⟩ = some (.int .i64 n)

theorem bal_at {w : World} {a : Option Addr} {len i : Nat} (h : IsBals w a len) (hi : i < len) : ∃ b off r n, a = some ⟨b, off, none⟩ ∧ ∀ w', Kept (fun _ => True) w w' → w'.cell? ⟨b, off + i * 2, none⟩ = some (.int .i64 r) ∧ w'.cell? ⟨b, off + i * 2 + 1, none⟩ = some (.int .i64 n) := by
  obtain ⟨b, off, r, n, e, _, c0, c1⟩ := h i hi
  exact ⟨b, off, r, n, e, fun w' k => ⟨cell_kept k c0 trivial, cell_kept k c1 trivial⟩⟩

def brow (bs : List Bl) : List Value := bs.flatMap fun b => [.int .i64 b.r, .int .i64 b.n]
theorem brow_cons (x : Bl) (xs : List Bl) : brow (x :: xs) = .int .i64 x.r :: .int .i64 x.n :: brow xs := rfl
theorem brow_append (xs ys : List Bl) : brow (xs ++ ys) = brow xs ++ brow ys := by simp [brow]
theorem brow_length (xs : List Bl) : (brow xs).length = xs.length * 2 := by
  induction xs with
  | nil => rfl
  | cons x xs ih => rw [brow_cons]; simp [ih]; omega
theorem brow_get : ∀ (xs : List Bl) (k : Nat) (h : k < xs.length), (brow xs)[k * 2]? = some (.int .i64 xs[k].r) ∧ (brow xs)[k * 2 + 1]? = some (.int .i64 xs[k].n)
  | x :: xs, 0, _ => by simp [brow_cons]
  | x :: xs, k + 1, h => by
    have := brow_get xs k (by simpa using h)
    rw [brow_cons, show (k + 1) * 2 = k * 2 + 1 + 1 by omega]
    simpa using this
theorem brow_one (xs : List Bl) : ∀ u ∈ brow xs, u.oneCell' = true := by
  intro u hu
  obtain ⟨x, _, hm⟩ := List.mem_flatMap.1 hu
  simp at hm
  rcases hm with rfl | rfl <;> rfl

/-- A slice of ballots in a row of its own. -/
def Bs (w : World) (base : Nat) (v : Value) (bs : List Bl) : Prop := w.ownsRow base 27 2 v bs.length (brow bs)
theorem Bs.nil (w : World) (base : Nat) : Bs w base (.slice none 0 0) [] := World.ownsRow_nil _ _ _ _
theorem Bs.kept {p : Nat → Prop} {w w' : World} {base : Nat} {v : Value} {bs : List Bl} (h : Bs w base v bs) (hk : Kept p w w') (hp : ∀ k, v.ownBlock = some k → p k) : Bs w' base v bs := vown_kept h hk hp
theorem Bs.shape {w : World} {base : Nat} {v : Value} {bs : List Bl} (h : Bs w base v bs) : ∃ ao cap, v = .slice ao bs.length cap := own_shape_row h
theorem Bs.at {w : World} {base n cap : Nat} {ao : Option Addr} {bs : List Bl} (h : Bs w base (.slice ao n cap) bs) (k : Nat) (hk : k < bs.length) : ∃ g, ao = some ⟨g, 0, none⟩ ∧ w.cell? ⟨g, k * 2, none⟩ = some (.int .i64 bs[k].r) ∧ w.cell? ⟨g, k * 2 + 1, none⟩ = some (.int .i64 bs[k].n) := by
  rcases h.2 with ⟨h', h0⟩ | ⟨g, cap', cur, h', hb, hg, hc, hm, hs, ht⟩
  · omega
  · simp only [Value.slice.injEq] at h'
    obtain ⟨rfl, rfl, rfl⟩ := h'
    have h2 : w.ownsRow base 27 2 (.slice (some ⟨g, 0, none⟩) bs.length cap) bs.length (brow bs) := ⟨h.1, .inr ⟨g, cap, cur, rfl, hb, hg, hc, hm, hs, ht⟩⟩
    obtain ⟨r0, r1⟩ := brow_get bs k hk
    exact ⟨g, rfl, (h2.cellAt _ (by omega)).trans r0, (h2.cellAt _ (by omega)).trans r1⟩

theorem Try.infoBalAll : (Try.prog.info? 27).map (fun i => (i.zero, i.size, i.bytes)) = some (some (.agg #[.int .i64 0, .int .i64 0]), 2, 16) := by kernel_rfl
theorem append_bal (w : World) (ty : TypeId) (base : Nat) (v : Value) (bs : List Bl) (h : Bs w base v bs) (hb : base ≤ w.heap.size) (G : Nat) (b : Bl) (fr : Nat × Nat) (hG : w.heap[G]? = some (.cells #[.int .i64 b.r, .int .i64 b.n] 27 fr)) (hm : bs.length ≤ 1000000) :
    ∃ ao' cap' w', (Builtin.append_ #[58, 58] ty #[v, .slice (some ⟨G, 0, none⟩) 1 1]).run Try.prog w = .ok (.slice ao' (bs.length + 1) cap') w' ∧ Bs w' base (.slice ao' (bs.length + 1) cap') (bs ++ [b]) ∧ w.grownBy w' v.ownBlock := by
  obtain ⟨i, hi, hz0, hz1, hz2⟩ := info_parts Try.infoBalAll
  obtain ⟨v', w', hr, h2, h3, _, h5⟩ := run_append_own_at (P := Try.prog) w base 58 ty 27 i _ 2 16 Try.underlying58 hi hz0 hz1 hz2 (by simp [Value.cells]) (by decide) v bs.length (brow bs) h ⟨G, 0, none⟩ 1 1 (brow [b]) (by simp [brow]) (World.news_of_block (w := w) hG) (brow_one [b]) (by unfold maxLen; omega) (by omega) hb
  obtain ⟨ao', cap', rfl⟩ := own_shape_row h2
  refine ⟨ao', cap', w', hr, ?_, h3⟩
  unfold Bs
  rw [brow_append, List.length_append]
  exact h2
theorem wpList_append_bal {w : World} {ops : Array Oper} {rest : List Oper} {o : Oper} {a : Act} {Q : Exit → Act → World → Prop} (hgd : o.guard = none) (sl y : Operand) (ho : o.op = .call { callee := .builtin .append, args := #[sl, y], argTypes := #[58, 58] })
    (base : Nat) (v : Value) (bs : List Bl) (hs : a.eval sl = v) (h : Bs w base v bs) (hb : base ≤ w.heap.size) (G : Nat) (hy : a.eval y = .slice (some ⟨G, 0, none⟩) 1 1) (b : Bl) (fr : Nat × Nat) (hG : w.heap[G]? = some (.cells #[.int .i64 b.r, .int .i64 b.n] 27 fr)) (hm : bs.length ≤ 1000000)
    (hK : ∀ ao' cap' w', Bs w' base (.slice ao' (bs.length + 1) cap') (bs ++ [b]) → w.grownBy w' v.ownBlock → wpList Try.prog ops Q rest (a.put o.dst (.slice ao' (bs.length + 1) cap')) w') : wpList Try.prog ops Q (o :: rest) a w := by
  refine wpList_plain hgd fun K hK' => ?_
  obtain ⟨ao', cap', w', hr, h2, h3⟩ := append_bal w o.type base v bs h hb G b fr hG hm
  unfold Oper.wp execOp
  simp only [ho, resolve, invoke, builtin, Sem.run_bind, Sem.run_pure, Result.andThen_ok, List.map_toArray, List.map_cons, List.map_nil, hs, hy, hr]
  exact hK' _ _ (hK ao' cap' w' h2 h3)
/-- Ballots in a row are no proposer's. -/
theorem Bs.own {w : World} {base : Nat} {v : Value} {bs : List Bl} (h : Bs w base v bs) {k : Nat} (hk : v.ownBlock = some k) : ∃ cur fr, w.heap[k]? = some (.cells cur 27 fr) := by
  rcases h.2 with ⟨rfl, _⟩ | ⟨g, cap, cur, rfl, _, hg, _⟩
  · simp [Value.ownBlock] at hk
  · simp [Value.ownBlock] at hk
    subst hk
    exact ⟨_, _, hg⟩

end Go.Proofs.Ytpgoedpodfidjaa
