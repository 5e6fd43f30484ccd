/-
  Promise.
-/
import Derived.Test.YtpgoedpodfidjaaP4
namespace Go.Proofs.Ytpgoedpodfidjaa
open Go.RowKit

theorem Po.promSet {w : World} {P n : Nat} {v : Value} {x : Pr} (h : Po w P v n x) {k : Nat} (hk : k < 5) : Po (w.setCell ⟨P, 6, none⟩ (.int .u64 (x.prom ||| 2 ^ k : Nat))).drew P v n { x with prom := x.prom ||| 2 ^ k } := by
  have k2 : Kept (· ≠ P) w (w.setCell ⟨P, 6, none⟩ (.int .u64 (x.prom ||| 2 ^ k : Nat))).drew := ((Kept.refl _ _).setCell (by simp) _).drew
  exact ⟨po_set h.self 6 _, h.rowKept k2 (fun i hi e => h.ne (e ▸ hi)), h.top, h.small, h.ok.promised hk⟩

theorem VR.apart {w : World} {P n : Nat} {v u : Value} {x : Pr} {l : List Vo} (h : Po w P v n x) (hv : VR w u l) : ∀ k, u.ownBlock = some k → k ≠ P ∧ v.ownBlock ≠ some k := by
  intro k hk
  rcases hv.2 with ⟨rfl, _⟩ | ⟨g, cap, cur, rfl, _, hg, _⟩
  · simp [Value.ownBlock] at hk
  · simp [Value.ownBlock] at hk
    subst hk
    refine ⟨fun e => ?_, fun e => ?_⟩
    · subst e
      rw [h.self] at hg
      simp at hg
    · rcases h.row.2 with ⟨rfl, _⟩ | ⟨g', cap', cur', rfl, _, hg', _⟩
      · simp [Value.ownBlock] at e
      · simp [Value.ownBlock] at e
        subst e
        rw [hg] at hg'
        simp at hg'

set_option maxRecDepth 100000 in
set_option maxHeartbeats 1000000 in
theorem promise_any {w : World} {P n : Nat} {v u : Value} {x : Pr} {l : List Vo} (h : Po w P v n x) (hu : VR w u l) (hll : l.length ≤ 1000000) (node : Int) (b : Bl) :
    Calls Try.prog 12 #[.pointer (some ⟨P, 0, none⟩), .int .i64 node, .agg #[.int .i64 b.r, .int .i64 b.n], u] w fun e w' => ∃ v' n', e = .returned (.tuple #[]) ∧ Po w' P v' n' (x.promise node b l) ∧ PS w w' P v v' := by
  have HU : Hid (VR w u l) := hu
  have HU2 : Hid (∀ k, u.ownBlock = some k → k ≠ P ∧ v.ownBlock ≠ some k) := VR.apart h hu
  obtain ⟨ua, uc, rfl, hug⟩ := hu.shape
  have H : Hid (Po w P v n x) := h
  have k1 : Kept (fun _ => True) w (w.alloc (.cells #[.int .i64 b.r, .int .i64 b.n] 27)) := (Kept.refl _ _).alloc _
  have hb := heap_alloc_new w (.cells #[.int .i64 b.r, .int .i64 b.n] 27)
  have H1 : Hid (Po _ P v n x) := h.all k1
  have c1 := pseen_any H1.out b.r b.n
  have hBP : Hid (w.heap.size ≠ P ∧ v.ownBlock ≠ some w.heap.size) := ⟨Nat.ne_of_gt h.lt, fun e => absurd (h.own_lt e) (Nat.lt_irrefl _)⟩
  clear h hu
  go_enter Try.func12, Try.ntmps12
  go_wp2
  refine wp_scope_ahead ?_
  generalize w.alloc (.cells #[.int .i64 b.r, .int .i64 b.n] 27) = w1 at *
  generalize w.heap.size = B at *
  obtain ⟨d0, d1⟩ := bcell hb
  go_wp2_with fail
  refine Calls.mono c1 ?_
  rintro e w2 ⟨rfl, h2, k2⟩
  have e0 := cell_kept k2 d0 hBP.out.1
  have e1 := cell_kept k2 d1 hBP.out.1
  have H2 : Hid (Po w2 P v n (x.sees b.r)) := h2
  have HS2 : Hid (PS w w2 P v v) := (PS.all k1).trans (PS.self k2)
  clear c1 d0 d1 hb h2 k2
  have hpr : Hid (x.promise node b l = if (x.sees b.r).counts node b = true then l.foldl Pr.vote { x.sees b.r with prom := (x.sees b.r).prom ||| 2 ^ node.toNat } else x.sees b.r) := rfl
  generalize x.sees b.r = y at *
  have c2 := mine_any H2.out b
  have c3 := fun W (kk : Kept (fun _ => True) w2 W) => isNode_any (H2.out.all kk) node
  have hcn : Hid (y.counts node b = (y.mine b && y.isNode node && !y.prom.testBit node.toNat)) := rfl
  cases hM : y.mine b
  · rw [hM] at c2
    go_wp2_with fail
    refine Calls.mono c2 ?_
    rintro e w3 ⟨rfl, k3⟩
    go_wp2_with fail
    simp only [Exit.ahead]
    refine bodyPost_ret (results_none rfl _ _ _) rfl ?_
    refine ⟨v, n, rfl, ?_, HS2.out.trans (PS.all k3)⟩
    rw [hpr.out, if_neg (by rw [hcn.out, hM]; simp)]
    exact H2.out.all k3
  rw [hM] at c2
  go_wp2_with fail
  refine Calls.mono c2 ?_
  rintro e w3 ⟨rfl, k3⟩
  have H3 : Hid (Po w3 P v n y) := H2.out.all k3
  have HS3 : Hid (PS w w3 P v v) := HS2.out.trans (PS.all k3)
  have c4 := c3 _ k3
  clear c2 c3 k3 e0 e1
  cases hN : y.isNode node
  · rw [hN] at c4
    go_wp2_with fail
    refine Calls.mono c4 ?_
    rintro e w3 ⟨rfl, rfl⟩
    go_wp2_with fail
    simp only [Exit.ahead]
    refine bodyPost_ret (results_none rfl _ _ _) rfl ?_
    refine ⟨v, n, rfl, ?_, HS3.out⟩
    rw [hpr.out, if_neg (by rw [hcn.out, hN]; simp)]
    exact H3.out
  rw [hN] at c4
  have hn5 : 0 ≤ node ∧ node < y.nodes := by simpa [Pr.isNode] using hN
  have hy5 := H3.out.ok.five
  obtain ⟨nd, rfl⟩ : ∃ k : Nat, node = k := ⟨node.toNat, by omega⟩
  have c5 := fun W => has_any (w := W) (k := nd) H3.out.ok.prom (by omega)
  obtain ⟨f0, f1, f2, f3, f4, f5, f6, f7, ff⟩ := ocell H3.out.self
  cases hH : y.prom.testBit nd
  · rw [hH] at c5
    go_wp2_with fail
    refine Calls.mono c4 ?_
    rintro e w3 ⟨rfl, rfl⟩
    go_wp2_with fail
    refine Calls.mono (c5 _) ?_
    rintro e w3 ⟨rfl, rfl⟩
    go_wp2_with fail
    go_step3
    refine ⟨_, rfl, ?_⟩
    have c6 := add_any (k := nd) H3.out.self (j := 6) rfl H3.out.ok.prom (by omega)
    have H4 : Hid (Po (w3.setCell ⟨P, 6, none⟩ (.int .u64 (y.prom ||| 2 ^ nd : Nat))).drew P v n { y with prom := y.prom ||| 2 ^ nd }) := H3.out.promSet (by omega)
    have HS4 : Hid (PS w (w3.setCell ⟨P, 6, none⟩ (.int .u64 (y.prom ||| 2 ^ nd : Nat))).drew P v v) := HS3.out.trans (PS.self (((Kept.refl _ _).setCell (by simp) _).drew))
    have hpr2 : Hid (x.promise nd b l = l.foldl Pr.vote { y with prom := y.prom ||| 2 ^ nd }) := by
      show _ = _
      rw [hpr.out, if_pos (by rw [hcn.out]; simp [hH, hM, hN])]
      simp
    clear c4 c5 f0 f1 f2 f3 f4 f5 f6 f7 ff hpr hcn hH hN hM hn5 hy5
    go_wp2_with fail
    refine Calls.mono c6 ?_
    rintro e w4 ⟨rfl, hw4⟩
    rw [← hw4] at H4 HS4
    clear c6 hw4
    generalize ({ y with prom := y.prom ||| 2 ^ nd } : Pr) = z at *
    go_wp2_with fail
    go_loopw [37] (fun t wr => ∃ (k : Nat) (v' : Value) (n' : Nat), k ≤ l.length ∧ t = .int .i64 k ∧ Po wr P v' n' ((l.take k).foldl Pr.vote z) ∧ PS w wr P v v') (fun t _ => l.length - (intOf t).toNat)
    case atStart => exact ⟨0, v, n, Nat.zero_le _, rfl, by simpa using H4.out, HS4.out⟩
    case round =>
      obtain ⟨k, v', n', hk, rfl, hp, hs⟩ := hrel
      have HP : Hid (Po wr P v' n' ((l.take k).foldl Pr.vote z)) := hp
      have HS : Hid (PS w wr P v v') := hs
      clear hp hs
      by_cases hlt : k < l.length
      · obtain ⟨g, rfl⟩ := hug (by omega)
        obtain ⟨q0, q1, q2, q3⟩ := (HU.out.kept HS.out.kept HU2.out).cells k hlt
        have htk : Hid ((l.take (k + 1)).foldl Pr.vote z = ((l.take k).foldl Pr.vote z).vote l[k]) := by
          show _ = _
          rw [List.take_succ_eq_append_getElem hlt, List.foldl_append]
          rfl
        generalize l[k] = y' at *
        obtain ⟨ys, yb, yt⟩ := y'
        have k9 : Kept (fun _ => True) wr (wr.alloc (.cells #[.int .i64 ys, .int .i64 yb.r, .int .i64 yb.n, .string yt] 33)) := (Kept.refl _ _).alloc _
        have c7 := vote_any (HP.out.all k9) ys yb yt
        have g1 : (k : Int) < (l.length : Int) := by omega
        have g0 : (0 : Int) ≤ (k : Int) := by omega
        go_wp2_with fail
        refine Calls.mono c7 ?_
        rintro e w5 ⟨v5, n5, rfl, h5, s5⟩
        go_wp2_with fail
        go_roundw
        case rel => exact ⟨k + 1, v5, n5, by omega, by go_num, by rw [htk.out]; exact h5, HS.out.trans ((PS.all k9).trans s5)⟩
        case measure => simp [intOf]; omega
      · have hkl : k = l.length := by omega
        subst hkl
        go_wp2
        simp only [Exit.noGoto]
        go_end0
        refine ⟨v', n', rfl, ?_, HS.out⟩
        rw [hpr2.out]
        simpa using HP.out
  · rw [hH] at c5
    go_wp2_with fail
    refine Calls.mono c4 ?_
    rintro e w3 ⟨rfl, rfl⟩
    go_wp2_with fail
    refine Calls.mono (c5 _) ?_
    rintro e w3 ⟨rfl, rfl⟩
    go_wp2_with fail
    simp only [Exit.ahead]
    refine bodyPost_ret (results_none rfl _ _ _) rfl ?_
    refine ⟨v, n, rfl, ?_, HS3.out⟩
    rw [hpr.out, if_neg (by rw [hcn.out]; simp [hH])]
    exact H3.out

end Go.Proofs.Ytpgoedpodfidjaa
