/-
  Votes.
-/
import Derived.Test.YtpgoedpodfidjaaB1
namespace Go.Proofs.Ytpgoedpodfidjaa
open Go.RowKit

/-- A slice of votes in a row of its own. -/
def VR (w : World) (v : Value) (xs : List Vo) : Prop := w.ownsRow 0 33 4 v xs.length (vrow xs)

theorem vown_kept {p : Nat → Prop} {w w' : World} {b e sz n : Nat} {v : Value} {xs : List Value} (h : w.ownsRow b e sz v n xs) (hk : Kept p w w') (hp : ∀ k, v.ownBlock = some k → p k) : w'.ownsRow b e sz v n xs := by
  refine ⟨h.1, ?_⟩
  rcases h.2 with h0 | ⟨g, cap, cur, rfl, hb, hh, rest⟩
  · exact .inl h0
  · exact .inr ⟨g, cap, cur, rfl, hb, (hk.block g (lt_of_block hh) (hp g rfl)).trans hh, rest⟩
theorem VR.kept {p : Nat → Prop} {w w' : World} {v : Value} {xs : List Vo} (h : VR w v xs) (hk : Kept p w w') (hp : ∀ k, v.ownBlock = some k → p k) : VR w' v xs := vown_kept h hk hp
theorem VR.all {w w' : World} {v : Value} {xs : List Vo} (h : VR w v xs) (hk : Kept (fun _ => True) w w') : VR w' v xs := h.kept hk (fun _ _ => trivial)
theorem VR.nil (w : World) : VR w (.slice none 0 0) [] := World.ownsRow_nil _ _ _ _
theorem VR.shape {w : World} {v : Value} {xs : List Vo} (h : VR w v xs) : ∃ ao cap, v = .slice ao xs.length cap ∧ (0 < xs.length → ∃ g, ao = some ⟨g, 0, none⟩) := by
  rcases h.2 with ⟨hv, h0⟩ | ⟨g, cap, cur, hv, _, hh, hc, _⟩
  · exact ⟨none, 0, by rw [hv, h0], fun hp => by omega⟩
  · exact ⟨_, cap, hv, fun _ => ⟨g, rfl⟩⟩
/-- The cells of the vote k. -/
theorem VR.cells {w : World} {g len cap : Nat} {xs : List Vo} (h : VR w (.slice (some ⟨g, 0, none⟩) len cap) xs) (k : Nat) (hk : k < xs.length) :
    w.cell? ⟨g, k * 4, none⟩ = some (.int .i64 xs[k].s) ∧ w.cell? ⟨g, k * 4 + 1, none⟩ = some (.int .i64 xs[k].b.r) ∧ w.cell? ⟨g, k * 4 + 2, none⟩ = some (.int .i64 xs[k].b.n) ∧ w.cell? ⟨g, k * 4 + 3, none⟩ = some (.string xs[k].v) := by
  rcases h.2 with ⟨h', _⟩ | ⟨g', cap', cur, h', hb, hg, hc, hm, hs, ht⟩
  · simp at h'
  · simp only [Value.slice.injEq, Option.some.injEq, Addr.mk.injEq, and_true] at h'
    obtain ⟨rfl, rfl, rfl⟩ := h'
    have h2 : w.ownsRow 0 33 4 (.slice (some ⟨g, 0, none⟩) xs.length cap) xs.length (vrow xs) := ⟨h.1, .inr ⟨g, cap, cur, rfl, hb, hg, hc, hm, hs, ht⟩⟩
    obtain ⟨r0, r1, r2, r3⟩ := vrow_get xs k hk
    exact ⟨(h2.cellAt _ (by omega)).trans r0, (h2.cellAt _ (by omega)).trans r1, (h2.cellAt _ (by omega)).trans r2, (h2.cellAt _ (by omega)).trans r3⟩

theorem Try.infoVoteAll : (Try.prog.info? 33).map (fun i => (i.zero, i.size, i.bytes)) = some (some (.agg #[.int .i64 0, .int .i64 0, .int .i64 0, .string .empty]), 4, 40) := by kernel_rfl

/-- An append of one vote that lies in a block by itself. -/
theorem append_vote (w : World) (ty : TypeId) (v : Value) (n : Nat) (xs : List Vo) (hn : xs.length = n) (hown : w.ownsRow 0 33 4 v n (vrow xs)) (G : Nat) (x : Vo) (fr : Nat × Nat) (hG : w.heap[G]? = some (.cells #[.int .i64 x.s, .int .i64 x.b.r, .int .i64 x.b.n, .string x.v] 33 fr)) (hm : n ≤ 1000000) :
    ∃ ao' cap' w', (Builtin.append_ #[34, 34] ty #[v, .slice (some ⟨G, 0, none⟩) 1 1]).run Try.prog w = .ok (.slice ao' (n + 1) cap') w' ∧ w'.ownsRow 0 33 4 (.slice ao' (n + 1) cap') (n + 1) (vrow (xs ++ [x])) ∧ w.grownBy w' v.ownBlock ∧
      ((Value.slice ao' (n + 1) cap').ownBlock = v.ownBlock ∨ (Value.slice ao' (n + 1) cap').ownBlock = some w.heap.size) := by
  obtain ⟨i, hi, hz0, hz1, hz2⟩ := info_parts Try.infoVoteAll
  obtain ⟨v', w', hr, h2, h3, _, h5⟩ := run_append_own_at (P := Try.prog) w 0 34 ty 33 i _ 4 40 Try.underlying34 hi hz0 hz1 hz2 (by simp [Value.cells]) (by decide) v n (vrow xs) hown ⟨G, 0, none⟩ 1 1 (vrow [x]) (by rw [vrow_length]; rfl) (World.news_of_block (w := w) hG) (vrow_one _) (by unfold maxLen; omega) (by omega) (Nat.zero_le _)
  rw [← vrow_append] at h2
  have hs : ∃ ao cap, v' = .slice ao (n + 1) cap := by
    rcases h2.2 with ⟨e, h0⟩ | ⟨g, cap, _, e, _⟩
    · exact ⟨_, _, h0 ▸ e⟩
    · exact ⟨_, _, e⟩
  obtain ⟨ao', cap', rfl⟩ := hs
  exact ⟨ao', cap', w', hr, h2, h3, h5⟩

theorem wpList_append_vote {w : World} {ops : Array Oper} {rest : List Oper} {o : Oper} {a : Act} {Q : Exit → Act → World → Prop}
    (hgd : o.guard = none) (sl y : Operand) (ho : o.op = .call { callee := .builtin .append, args := #[sl, y], argTypes := #[34, 34] })
    (v : Value) (n : Nat) (xs : List Vo) (hs : a.eval sl = v) (hn : xs.length = n) (hown : w.ownsRow 0 33 4 v n (vrow xs)) (G : Nat) (hy : a.eval y = .slice (some ⟨G, 0, none⟩) 1 1) (x : Vo) (fr : Nat × Nat) (hG : w.heap[G]? = some (.cells #[.int .i64 x.s, .int .i64 x.b.r, .int .i64 x.b.n, .string x.v] 33 fr)) (hm : n ≤ 1000000)
    (h : ∀ ao' cap' w', w'.ownsRow 0 33 4 (.slice ao' (n + 1) cap') (n + 1) (vrow (xs ++ [x])) → w.grownBy w' v.ownBlock → ((Value.slice ao' (n + 1) cap').ownBlock = v.ownBlock ∨ (Value.slice ao' (n + 1) cap').ownBlock = some w.heap.size) → wpList Try.prog ops Q rest (a.put o.dst (.slice ao' (n + 1) cap')) w') : wpList Try.prog ops Q (o :: rest) a w := by
  refine wpList_plain hgd fun K hK => ?_
  obtain ⟨ao', cap', w', hr, h2, h3, h4⟩ := append_vote w o.type v n xs hn hown G x fr hG hm
  unfold Oper.wp execOp
  simp only [ho, resolve, invoke, builtin, Sem.run_bind, Sem.run_pure, Result.andThen_ok, List.map_toArray, List.map_cons, List.map_nil, hs, hy, hr]
  exact hK _ _ (h ao' cap' w' h2 h3 h4)

theorem max_zero (a : Int) : max a 0 = (a.toNat : Int) := by omega

set_option maxRecDepth 100000 in
set_option maxHeartbeats 1000000 in
theorem votes_any {w : World} {A M n : Nat} {p : Bl} {f : Vs} (h : Ac w A M n p f) (a : Int) :
    Calls Try.prog 24 #[.pointer (some ⟨A, 0, none⟩), .int .i64 a] w fun e w' => ∃ v, e = .returned v ∧ VR w' v (votesFrom f a) ∧ Kept (fun _ => True) w w' ∧ (∀ k, v.ownBlock = some k → w.heap.size ≤ k) := by
  have HA : Hid (Ac w A M n p f) := h
  clear h
  go_enter Try.func24, Try.ntmps24
  go_wp2
  all_goals
    go_loopw [5, 6] (fun t u wr => ∃ (k : Nat), u = .int .i64 k ∧ a.toNat ≤ k ∧ (k ≤ 512 ∨ k = a.toNat) ∧ VR wr t (votesUp f a.toNat k) ∧ Kept (fun _ => True) w wr ∧ (∀ b, t.ownBlock = some b → w.heap.size ≤ b)) (fun _ u _ => 512 - (intOf u).toNat)
  case atStart => exact ⟨0, rfl, by omega, .inl (by omega), by rw [show a.toNat = 0 by omega, votesUp_none]; exact VR.nil _, Kept.refl _ _, fun b hb => by simp [Value.ownBlock] at hb⟩
  case atStart => exact ⟨a.toNat, by congr 1; omega, Nat.le_refl _, .inr rfl, by rw [votesUp_none]; exact VR.nil _, Kept.refl _ _, fun b hb => by simp [Value.ownBlock] at hb⟩
  all_goals
    obtain ⟨k, rfl, hk1, hk2, hv, hk, hnew⟩ := hrel
    obtain ⟨ao, cap, rfl, hg⟩ := hv.shape
    by_cases h5 : k < 512
    · have ha := HA.out.all hk
      obtain ⟨c0, c1, c2, f0, f1, f2⟩ := acell ha.self
      have g1 : (k : Int) < 512 := by omega
      have hlen := votesUp_len f a.toNat k
      have HV : Hid (VR wr (.slice ao (votesUp f a.toNat k).length cap) (votesUp f a.toNat k)) := hv
      have HS : Hid (votesUp f a.toNat (k + 1) = votesUp f a.toNat k ++ (voteAt f k).toList) := votesUp_step f hk1
      clear hv
      cases hf : f k with
      | none =>
        have hl := ha.mp.look_none h5 hf
        have HN : Hid (votesUp f a.toNat (k + 1) = votesUp f a.toNat k) := by
          show _ = _
          rw [HS.out]; simp [voteAt, hf]
        generalize votesUp f a.toNat k = xs at *
        go_wp2
        refine ⟨⟨k + 1, by simp, by omega, .inl (by omega), by rw [HN.out]; exact HV.out.all ((Kept.refl _ _).alloc _), hk.alloc _, hnew⟩, by simp [intOf]; omega⟩
      | some x =>
        have hl := ha.mp.look_some h5 hf
        have HN : Hid (votesUp f a.toNat (k + 1) = votesUp f a.toNat k ++ [⟨k, x.1, x.2⟩]) := by
          show _ = _
          rw [HS.out]; simp [voteAt, hf]
        generalize votesUp f a.toNat k = xs at *
        go_wp2_with (at_builtin; refine wpList_append_vote rfl _ _ rfl _ _ xs rfl rfl (HV.out.all (((Kept.refl _ _).alloc _).alloc _)) _ rfl ⟨k, x.1, x.2⟩ (0, 0) (heap_alloc2_new _ _ _) (by omega) ?_; intro ao' cap' w1 hown hgrow hat)
        go_wp2
        have k1 : Kept (fun _ => True) w w1 := ((hk.alloc _).alloc _).grown hgrow (fun b hb e _ => by have := hnew b e; omega)
        refine ⟨⟨k + 1, by simp, by omega, .inl (by omega), by rw [HN.out]; simpa [VR] using hown, k1, fun b hb => ?_⟩, by simp [intOf]; omega⟩
        rcases hat with h | h
        · exact hnew b (h.symm.trans hb)
        · rw [h] at hb; cases hb; have := hk.size; simp; omega
    · go_wp2
      go_ret
      refine ⟨_, rfl, ?_, hk, hnew⟩
      have : votesFrom f a = votesUp f a.toNat k := by
        unfold votesFrom
        by_cases h6 : k = 512
        · rw [h6]
        · rw [votesUp_over f (by omega), votesUp_over f (by omega)]
      rw [this]
      exact hv

end Go.Proofs.Ytpgoedpodfidjaa
