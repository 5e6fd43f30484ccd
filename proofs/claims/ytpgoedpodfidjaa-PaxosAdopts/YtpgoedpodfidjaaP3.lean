/-
  place, picked.
-/
import Derived.Test.YtpgoedpodfidjaaP2
import Derived.ScopeJumps
import Derived.WalkMore
namespace Go.Proofs.Ytpgoedpodfidjaa
open Go.RowKit

theorem Try.infoPlace : (Try.prog.info? 75).map (fun i => (i.zero, i.size, i.bytes)) = some (some (.agg #[.bool false, .int .i64 0, .int .i64 0, .int .i64 0, .string .empty, .bool false, .string .empty, .int .u64 0]), 8, 80) := by kernel_rfl

/-- An append of one place that lies in a block by itself. -/
theorem append_place (w : World) (ty : TypeId) (v : Value) (n : Nat) (f : Nat → Pl) (hown : w.ownsRow 0 75 8 v n (prow f n)) (G : Nat) (fr : Nat × Nat) (hG : w.heap[G]? = some (.cells (pcells (f n)).toArray 75 fr)) (hm : n ≤ 1000000) :
    ∃ ao' cap' w', (Builtin.append_ #[64, 64] ty #[v, .slice (some ⟨G, 0, none⟩) 1 1]).run Try.prog w = .ok (.slice ao' (n + 1) cap') w' ∧ w'.ownsRow 0 75 8 (.slice ao' (n + 1) cap') (n + 1) (prow f (n + 1)) ∧ w.grownBy w' v.ownBlock ∧
      ((Value.slice ao' (n + 1) cap').ownBlock = v.ownBlock ∨ (Value.slice ao' (n + 1) cap').ownBlock = some w.heap.size) := by
  obtain ⟨i, hi, hz0, hz1, hz2⟩ := info_parts Try.infoPlace
  obtain ⟨v', w', hr, h2, h3, _, h5⟩ := run_append_own_at (P := Try.prog) w 0 64 ty 75 i _ 8 80 Try.underlying64 hi hz0 hz1 hz2 (by simp [Value.cells]) (by decide) v n (prow f n) hown ⟨G, 0, none⟩ 1 1 (pcells (f n)) (by simp [pcells]) (World.news_of_block (w := w) hG) (pcells_one _) (by unfold maxLen; omega) (by omega) (Nat.zero_le _)
  rw [← prow_succ] at h2
  have hs : ∃ ao cap, v' = .slice ao (n + 1) cap := by
    rcases h2.2 with ⟨e, h0⟩ | ⟨g, cap, _, e, _⟩
    · exact ⟨_, _, h0 ▸ e⟩
    · exact ⟨_, _, e⟩
  obtain ⟨ao', cap', rfl⟩ := hs
  exact ⟨ao', cap', w', hr, h2, h3, h5⟩

theorem wpList_append_place {w : World} {ops : Array Oper} {rest : List Oper} {o : Oper} {a : Act} {Q : Exit → Act → World → Prop}
    (hgd : o.guard = none) (sl y : Operand) (ho : o.op = .call { callee := .builtin .append, args := #[sl, y], argTypes := #[64, 64] })
    (v : Value) (n : Nat) (f : Nat → Pl) (hs : a.eval sl = v) (hown : w.ownsRow 0 75 8 v n (prow f n)) (G : Nat) (hy : a.eval y = .slice (some ⟨G, 0, none⟩) 1 1) (fr : Nat × Nat) (hG : w.heap[G]? = some (.cells (pcells (f n)).toArray 75 fr)) (hm : n ≤ 1000000)
    (h : ∀ ao' cap' w', w'.ownsRow 0 75 8 (.slice ao' (n + 1) cap') (n + 1) (prow f (n + 1)) → w.grownBy w' v.ownBlock → ((Value.slice ao' (n + 1) cap').ownBlock = v.ownBlock ∨ (Value.slice ao' (n + 1) cap').ownBlock = some w.heap.size) → wpList Try.prog ops Q rest (a.put o.dst (.slice ao' (n + 1) cap')) w') : wpList Try.prog ops Q (o :: rest) a w := by
  refine wpList_plain hgd fun K hK => ?_
  obtain ⟨ao', cap', w', hr, h2, h3, h4⟩ := append_place w o.type v n f hown G fr hG hm
  unfold Oper.wp execOp
  simp only [ho, resolve, invoke, builtin, Sem.run_bind, Sem.run_pure, Result.andThen_ok, List.map_toArray, List.map_cons, List.map_nil, hs, hy, hr]
  exact hK _ _ (h ao' cap' w' h2 h3 h4)

/-- What a call that turns a proposer leaves: what is not of it is as it was; its places are where they were, or new. -/
structure PS (w w' : World) (P : Nat) (v v' : Value) : Prop where
  kept : Kept (fun i => i ≠ P ∧ v.ownBlock ≠ some i) w w'
  own : ∀ k, v'.ownBlock = some k → v.ownBlock = some k ∨ w.heap.size ≤ k
theorem PS.refl (w : World) (P : Nat) (v : Value) : PS w w P v v := ⟨Kept.refl _ _, fun _ h => .inl h⟩
theorem PS.trans {a b c : World} {P : Nat} {u v x : Value} (h : PS a b P u v) (k : PS b c P v x) : PS a c P u x :=
  ⟨h.kept.then k.kept (fun i hi hp => ⟨hp.1, fun e => by
      rcases h.own i e with q | q
      · exact hp.2 q
      · omega⟩),
   fun i e => by
      rcases k.own i e with q | q
      · exact h.own i q
      · exact .inr (Nat.le_trans h.kept.size q)⟩
theorem PS.all {a b : World} {P : Nat} {v : Value} (k : Kept (fun _ => True) a b) : PS a b P v v := ⟨k.mono (fun _ _ _ => trivial), fun _ h => .inl h⟩
theorem PS.self {a b : World} {P : Nat} {v : Value} (k : Kept (· ≠ P) a b) : PS a b P v v := ⟨k.mono (fun _ _ h => h.1), fun _ h => .inl h⟩

theorem Po.shape {w : World} {P n : Nat} {v : Value} {x : Pr} (h : Po w P v n x) : ∃ ao cap, v = .slice ao n cap ∧ (0 < n → ∃ g, ao = some ⟨g, 0, none⟩) := by
  rcases h.row.2 with ⟨hv, h0⟩ | ⟨g, cap, cur, hv, _, hh, hc, _⟩
  · exact ⟨none, 0, by rw [hv, h0], fun hp => by omega⟩
  · exact ⟨_, cap, hv, fun _ => ⟨g, rfl⟩⟩

/-- Another slice of places. -/
theorem Po.setRow {w w1 : World} {P n : Nat} {v : Value} {x : Pr} (h : Po w P v n x) {v' : Value} {m : Nat} (k : Kept (fun i => v.ownBlock ≠ some i) w w1) (hr : w1.ownsRow 0 75 8 v' m (prow x.pl m)) (hv : v'.ownBlock ≠ some P) (ht : ∀ s, m ≤ s → x.pl s = zeroPl) (hm : m ≤ 512) :
    Po (w1.setCell ⟨P, 7, none⟩ v') P v' m x := by
  have hs : w1.heap[P]? = _ := (k.block P h.lt h.ne).trans h.self
  refine ⟨?_, ?_, ht, hm, h.ok⟩
  · exact (po_set hs 7 v').trans rfl
  · refine ⟨hr.1, ?_⟩
    rcases hr.2 with h0 | ⟨g, cap, cur, rfl, hb, hh, rest⟩
    · exact .inl h0
    · exact .inr ⟨g, cap, cur, rfl, hb, (heap_setCell_other w1 ⟨P, 7, none⟩ g _ (fun e => hv (by simp [Value.ownBlock, e]))).trans hh, rest⟩

set_option maxRecDepth 100000 in
set_option maxHeartbeats 1000000 in
theorem place_any {w : World} {P n : Nat} {v : Value} {x : Pr} (h : Po w P v n x) (s : Nat) (hs : s < 512) :
    Calls Try.prog 32 #[.pointer (some ⟨P, 0, none⟩), .int .i64 s] w fun e w' => ∃ G m cap, e = .returned (.pointer (some ⟨G, s * 8, none⟩)) ∧ s < m ∧ Po w' P (.slice (some ⟨G, 0, none⟩) m cap) m x ∧ PS w w' P v (.slice (some ⟨G, 0, none⟩) m cap) := by
  have H : Hid (Po w P v n x) := h
  clear h
  go_enter Try.func32, Try.ntmps32
  go_wp2
  go_loopw [] (fun wr => ∃ (m : Nat) (u : Value), Po wr P u m x ∧ PS w wr P v u) (fun wr => 512 - (match wr.cell? ⟨P, 7, none⟩ with | some (.slice _ k _) => k | _ => 0))
  case atStart => exact ⟨n, v, H.out, PS.refl _ _ _⟩
  case round =>
    obtain ⟨m, u, hp, hk⟩ := hrel
    obtain ⟨ao, cap, rfl, hg⟩ := hp.shape
    have HP : Hid (Po wr P (.slice ao m cap) m x) := hp
    have HK : Hid (PS w wr P v (.slice ao m cap)) := hk
    obtain ⟨c0, c1, c2, c3, c4, c5, c6, c7, cf⟩ := ocell hp.self
    have lt := hp.lt
    have hm := hp.small
    clear hp hk
    by_cases hlt : m ≤ s
    · have HZ : Hid (x.pl m = zeroPl) := HP.out.top m (Nat.le_refl _)
      go_wp2_with (at_builtin; refine wpList_append_place rfl _ _ rfl _ m x.pl rfl (HP.out.all ((Kept.refl _ _).alloc _)).row _ rfl (0, 0) (by rw [HZ.out]; exact heap_alloc_new _ _) (by omega) ?_; intro ao' cap' w1 hown hgrow hat; have k1 : Kept (fun i => (Value.slice ao m cap).ownBlock ≠ some i) wr w1 := ((Kept.refl _ _).alloc _).grown hgrow (fun k _ e h => h e); have hP : w1.heap[P]? = _ := (k1.block P HP.out.lt HP.out.ne).trans HP.out.self; obtain ⟨e0, e1, e2, e3, e4, e5, e6, e7, ef⟩ := ocell hP; have ltP := lt_of_block hP)
      have hv : (Value.slice ao' (m + 1) cap').ownBlock ≠ some P := by
        rcases hat with e | e
        · rw [e]; exact HP.out.ne
        · rw [e]; intro q; cases q; have := HP.out.lt; simp at this; omega
      have h2 : Po (w1.setCell ⟨P, 7, none⟩ (.slice ao' (m + 1) cap')) P (.slice ao' (m + 1) cap') (m + 1) x := HP.out.setRow k1 hown hv (fun s hs => HP.out.top s (by omega)) (by omega)
      refine ⟨⟨m + 1, _, h2, HK.out.trans ⟨(k1.mono (fun i _ h => h.2)).setCell (by simp) _, fun k hk => ?_⟩⟩, ?_⟩
      · rcases hat with e | e
        · exact .inl (e.symm.trans hk)
        · rw [e] at hk; cases hk; exact .inr (by simp)
      · rw [(ocell h2.self).2.2.2.2.2.2.2.1, c7]
        show 512 - (m + 1) < 512 - m
        omega
    · obtain ⟨g, rfl⟩ := hg (by omega)
      have g1 : (s : Int) < (m : Int) := by omega
      have g0 : (0 : Int) ≤ (s : Int) := by omega
      go_wp2
      go_ret
      exact ⟨g, m, cap, by simp, by omega, HP.out, HK.out⟩

set_option maxHeartbeats 1000000 in
theorem picked_any {w : World} {P n : Nat} {v : Value} {x : Pr} (h : Po w P v n x) (s : Int) :
    Calls Try.prog 33 #[.pointer (some ⟨P, 0, none⟩), .int .i64 s] w fun e w' => e = .returned (.bool (decide (0 ≤ s) && (x.pl s.toNat).picked)) ∧ w' = w := by
  obtain ⟨ao, cap, rfl, hg⟩ := h.shape
  obtain ⟨c0, c1, c2, c3, c4, c5, c6, c7, cf⟩ := ocell h.self
  have lt := h.lt
  have hm := h.small
  by_cases h0 : 0 ≤ s
  · obtain ⟨s, rfl⟩ : ∃ k : Nat, s = k := ⟨s.toNat, by omega⟩
    by_cases h1 : s < n
    · obtain ⟨g, rfl⟩ := hg (by omega)
      have g1 : (s : Int) < (n : Int) := by omega
      have q : w.cell? ⟨g, s * 8 + 5, none⟩ = some (.bool (x.pl s).picked) := (h.row.cellAt (s * 8 + 5) (by omega)).trans (prow_get x.pl h1 5 (by omega))
      clear h c0 c1 c2 c3 c4 c5 c6 hg
      go_enter Try.func33, Try.ntmps33
      go_wp2
      go_ret
      exact ⟨by simp, rfl⟩
    · have g1 : ¬ (s : Int) < (n : Int) := by omega
      have hz : (x.pl s).picked = false := by rw [h.top s (by omega)]; rfl
      clear h c0 c1 c2 c3 c4 c5 c6 hg
      go_enter Try.func33, Try.ntmps33
      go_wp2
      go_ret
      exact ⟨by simp , rfl⟩
  · clear h c0 c1 c2 c3 c4 c5 c6 hg
    go_enter Try.func33, Try.ntmps33
    go_wp2
    go_ret
    exact ⟨by simp ; intro h; omega, rfl⟩

end Go.Proofs.Ytpgoedpodfidjaa
