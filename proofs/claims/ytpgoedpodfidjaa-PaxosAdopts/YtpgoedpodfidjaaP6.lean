/-
  Pick, Accepted.
-/
import Derived.Test.YtpgoedpodfidjaaP5
namespace Go.Proofs.Ytpgoedpodfidjaa
open Go.RowKit

theorem po_drew {w : World} {P n : Nat} {v : Value} {x : Pr} (h : Po w P v n x) (k : Nat) : Po (w.drewN k) P v n x := h.all ((Kept.refl _ _).drewN k)

set_option maxRecDepth 100000 in
set_option maxHeartbeats 1000000 in
theorem pick_any {w : World} {P n : Nat} {v : Value} {x : Pr} (h : Po w P v n x) (s : Int) (t : ByteArray) :
    Calls Try.prog 14 #[.pointer (some ⟨P, 0, none⟩), .int .i64 s, .string t] w fun e w' => ∃ v' n', e = .returned (.tuple #[.string (x.picks s t), .bool (x.may s)]) ∧ Po w' P v' n' (x.pick s t) ∧ PS w w' P v v' := by
  have H : Hid (Po w P v n x) := h
  have c1 := led_any h
  have c2 := fun k => asked_any (po_drew h k) s
  have hmy : Hid (x.may s = (x.led && x.asked s)) := rfl
  clear h
  go_enter Try.func14, Try.ntmps14
  go_wp2
  refine wp_scope_ahead ?_
  cases hL : x.led
  · rw [hL] at c1
    go_wp2_with fail
    refine Calls.mono c1 ?_
    rintro e _ ⟨rfl, k, rfl⟩
    go_wp2_with fail
    go_step3
    refine ⟨_, rfl, ?_⟩
    go_wp2
    simp only [Exit.noGoto]
    go_ret2
    have hf : x.may s = false := by rw [hmy.out, hL]; rfl
    refine ⟨v, n, ?_, ?_, PS.all ((Kept.refl _ _).drewN k)⟩
    · rw [hf, show x.picks s t = .empty from if_neg (by simp [hf])]
      rfl
    · rw [show x.pick s t = x from if_neg (by simp [hf])]
      exact po_drew H.out k
  rw [hL] at c1
  cases hA : x.asked s
  · rw [hA] at c2
    go_wp2_with fail
    refine Calls.mono c1 ?_
    rintro e _ ⟨rfl, k, rfl⟩
    go_wp2_with fail
    refine Calls.mono (c2 k) ?_
    rintro e _ ⟨rfl, rfl⟩
    go_wp2_with fail
    go_step3
    refine ⟨_, rfl, ?_⟩
    go_wp2
    simp only [Exit.noGoto]
    go_ret2
    have hf : x.may s = false := by rw [hmy.out, hA]; simp
    refine ⟨v, n, ?_, ?_, PS.all ((Kept.refl _ _).drewN k)⟩
    · rw [hf, show x.picks s t = .empty from if_neg (by simp [hf])]
      rfl
    · rw [show x.pick s t = x from if_neg (by simp [hf])]
      exact po_drew H.out k
  rw [hA] at c2
  have ha : (x.frm : Int) ≤ s ∧ s < 512 := by simpa [Pr.asked] using hA
  obtain ⟨s, rfl⟩ : ∃ k : Nat, s = k := ⟨s.toNat, by omega⟩
  have hf : Hid (x.may s = true) := by show _ = _; rw [hmy.out, hA, hL]; rfl
  have hpk : Hid (x.pick s t = x.put s { x.pl s with picked := true, value := (x.pl s).would t }) := if_pos hf.out
  have hps : Hid (x.picks s t = (x.pl s).would t) := if_pos hf.out
  have c3 := fun k => place_any (po_drew H.out k) s (by omega)
  clear hA hL hmy
  go_wp2_with fail
  refine Calls.mono c1 ?_
  rintro e _ ⟨rfl, k, rfl⟩
  go_wp2_with fail
  refine Calls.mono (c2 k) ?_
  rintro e _ ⟨rfl, rfl⟩
  go_wp2_with fail
  refine Calls.mono (c3 k) ?_
  rintro e w2 ⟨G, m, cap, rfl, hm, hp, hk⟩
  obtain ⟨g0, g1, g2, g3, g4, g5, g6, g7, gf⟩ := hp.cells hm
  have lg := hp.rlt
  have HP : Hid (Po w2 P (.slice (some ⟨G, 0, none⟩) m cap) m x) := hp
  have HK : Hid (PS w w2 P v (.slice (some ⟨G, 0, none⟩) m cap)) := (PS.all ((Kept.refl _ _).drewN k)).trans hk
  have HE : Hid (∀ q, (x.pl s) = q → x.put s q = x) := fun q hq => by subst hq; exact Pr.put_same x s
  clear hp hk c1 c2 c3 g0 g1 g7 ha
  have hac : Hid ((x.pl s).acc < 32) := HP.out.ok.acc s
  generalize hq : x.pl s = q at *
  obtain ⟨qv, ⟨bs, ⟨br, bn⟩, bv⟩, qp, qval, qa⟩ := q
  simp only at g2 g3 g4 g5 g6
  cases qp
  · have hs2 : Hid (∀ u, Po ((w2.setCell ⟨G, s * 8 + 5, none⟩ (.bool true)).setCell ⟨G, s * 8 + 6, none⟩ (.string u)) P (.slice (some ⟨G, 0, none⟩) m cap) m (x.put s ⟨qv, ⟨bs, ⟨br, bn⟩, bv⟩, true, u, qa⟩)) := by
      intro u
      have h1 := HP.out.store hm 5 (by omega) (.bool true) ⟨qv, ⟨bs, ⟨br, bn⟩, bv⟩, true, qval, qa⟩ (by rw [hq]; rfl) hac.out
      have h2 := h1.store hm 6 (by omega) (.string u) ⟨qv, ⟨bs, ⟨br, bn⟩, bv⟩, true, u, qa⟩ (by rw [Pr.put_at]; rfl) hac.out
      rw [Pr.put_put] at h2
      exact h2
    clear hq
    by_cases hb0 : br = 0 ∧ bn = 0
    · obtain ⟨rfl, rfl⟩ := hb0
      go_wp2
      go_step3
      go_wp2
      simp only [Exit.ahead]
      go_ret2
      refine ⟨_, m, ?_, ?_, (HK.out.store _ _).store _ _⟩
      · rw [hps.out, hf.out]
        rfl
      · rw [hpk.out]
        exact hs2.out t
    · have hb3 : (br ≠ 0 ∧ (br == 0) = false) ∨ (br = 0 ∧ bn ≠ 0 ∧ (bn == 0) = false) := by
        by_cases h : br = 0
        · exact .inr ⟨h, fun q => hb0 ⟨h, q⟩, by simpa using fun q => hb0 ⟨h, q⟩⟩
        · exact .inl ⟨h, by simpa using h⟩
      have hw : Hid ((⟨qv, ⟨bs, ⟨br, bn⟩, bv⟩, false, qval, qa⟩ : Pl).would t = bv) := by
        show Pl.would _ _ = _
        simp only [Pl.would]
        rw [if_neg (by simp), if_neg (by simpa using fun a b => hb0 ⟨a, b⟩)]
      clear hb0
      rcases hb3 with ⟨q1, q2⟩ | ⟨rfl, q1, q2⟩
      all_goals
        go_wp2
        go_step3
        go_wp2
        simp only [Exit.ahead]
        go_ret2
        refine ⟨_, m, ?_, ?_, (HK.out.store _ _).store _ _⟩
        · rw [hps.out, hf.out, hw.out]
          rfl
        · rw [hpk.out, hw.out]
          exact hs2.out bv
  · clear hq
    go_wp2_with fail
    go_step3
    refine ⟨_, rfl, ?_⟩
    go_wp2
    simp only [Exit.noGoto]
    go_ret2
    refine ⟨_, m, ?_, ?_, HK.out⟩
    · rw [hps.out, hf.out]
      rfl
    · rw [hpk.out]
      show Po w2 P _ m (x.put s ⟨qv, ⟨bs, ⟨br, bn⟩, bv⟩, true, qval, qa⟩)
      rw [HE.out _ rfl]
      exact HP.out

set_option maxHeartbeats 400000 in
theorem add_cell {w : World} {P j m k : Nat} (c : w.cell? ⟨P, j, none⟩ = some (.int .u64 m)) (cf : w.frozen? ⟨P, j, none⟩ = false) (_ : P < w.heap.size) (hm : m < 32) (hk : k < 5) :
    Calls Try.prog 28 #[.pointer (some ⟨P, j, none⟩), .int .i64 k] w fun e w' => e = .returned (.tuple #[]) ∧ w' = (w.setCell ⟨P, j, none⟩ (.int .u64 (m ||| 2 ^ k : Nat))).drew := by
  have hb := add_bit m hm k hk
  have hw : IntKind.u64.wrap (2 ^ k) = 2 ^ k := wrap_bit k hk
  go_enter Try.func28, Try.ntmps28
  go_wp2_with fail
  go_region
  go_wp2
  go_end0
  exact ⟨rfl, rfl⟩

set_option maxRecDepth 100000 in
set_option maxHeartbeats 1000000 in
theorem accepted_any {w : World} {P n : Nat} {v : Value} {x : Pr} (h : Po w P v n x) (node : Int) (b : Bl) (s : Int) :
    Calls Try.prog 16 #[.pointer (some ⟨P, 0, none⟩), .int .i64 node, .agg #[.int .i64 b.r, .int .i64 b.n], .int .i64 s] w fun e w' => ∃ v' n', e = .returned (.bool (x.accepts node b s)) ∧ Po w' P v' n' (x.accept node b s) ∧ PS w w' P v v' := by
  have H : Hid (Po w P v n x) := h
  have k1 : Kept (fun _ => True) w (w.alloc (.cells #[.int .i64 b.r, .int .i64 b.n] 27)) := (Kept.refl _ _).alloc _
  have hb := heap_alloc_new w (.cells #[.int .i64 b.r, .int .i64 b.n] 27)
  have H1 : Hid (Po _ P v n x) := h.all k1
  have c2 := mine_any H1.out b
  have htk : Hid (x.took node b s = (x.mine b && x.isNode node && (decide (0 ≤ s) && (x.pl s.toNat).picked))) := rfl
  have hno : Hid (x.took node b s = false → x.accept node b s = x ∧ x.accepts node b s = false) := fun q => ⟨if_neg (by simp [q]), by simp [Pr.accepts, q]⟩
  clear h
  go_enter Try.func16, Try.ntmps16
  go_wp2
  refine wp_scope_ahead ?_
  generalize w.alloc (.cells #[.int .i64 b.r, .int .i64 b.n] 27) = w1 at *
  generalize w.heap.size = B at *
  obtain ⟨d0, d1⟩ := bcell hb
  cases hM : x.mine b
  · rw [hM] at c2
    go_wp2_with fail
    refine Calls.mono c2 ?_
    rintro e w3 ⟨rfl, k3⟩
    go_wp2_with fail
    simp only [Exit.ahead]
    go_ret
    obtain ⟨q1, q2⟩ := hno.out (by rw [htk.out, hM]; simp)
    refine ⟨v, n, by rw [q2]; rfl, ?_, (PS.all k1).trans (PS.all k3)⟩
    rw [q1]
    exact H1.out.all k3
  rw [hM] at c2
  go_wp2_with fail
  refine Calls.mono c2 ?_
  rintro e w3 ⟨rfl, k3⟩
  have H3 : Hid (Po w3 P v n x) := H1.out.all k3
  have HS3 : Hid (PS w w3 P v v) := (PS.all k1).trans (PS.all k3)
  clear c2 k3 d0 d1 hb
  have c4 := isNode_any H3.out node
  have c5 := picked_any H3.out s
  cases hN : x.isNode node
  · rw [hN] at c4
    go_wp2_with fail
    refine Calls.mono c4 ?_
    rintro e w3 ⟨rfl, rfl⟩
    go_wp2_with fail
    simp only [Exit.ahead]
    go_ret
    obtain ⟨q1, q2⟩ := hno.out (by rw [htk.out, hN]; simp)
    refine ⟨v, n, by rw [q2]; rfl, ?_, HS3.out⟩
    rw [q1]
    exact H3.out
  rw [hN] at c4
  cases hP : (decide (0 ≤ s) && (x.pl s.toNat).picked)
  · rw [hP] at c5
    go_wp2_with fail
    refine Calls.mono c4 ?_
    rintro e w3 ⟨rfl, rfl⟩
    go_wp2_with fail
    refine Calls.mono c5 ?_
    rintro e w3 ⟨rfl, rfl⟩
    go_wp2_with fail
    simp only [Exit.ahead]
    go_ret
    obtain ⟨q1, q2⟩ := hno.out (by rw [htk.out, hP]; simp)
    refine ⟨v, n, by rw [q2]; rfl, ?_, HS3.out⟩
    rw [q1]
    exact H3.out
  rw [hP] at c5
  have hn5 : 0 ≤ node ∧ node < x.nodes := by simpa [Pr.isNode] using hN
  have hy5 := H3.out.ok.five
  obtain ⟨nd, rfl⟩ : ∃ k : Nat, node = k := ⟨node.toNat, by omega⟩
  have hs0 : 0 ≤ s ∧ (x.pl s.toNat).picked = true := by simpa using hP
  obtain ⟨s, rfl⟩ : ∃ k : Nat, s = k := ⟨s.toNat, by omega⟩
  have hs1 : s < n := by
    apply Nat.lt_of_not_le
    intro hle
    have := H3.out.top s hle
    have h2 := hs0.2
    simp only [Int.toNat_natCast] at h2
    rw [this] at h2
    cases h2
  have hs2 := H3.out.small
  have hyes : Hid (x.took nd b s = true) := by show _ = _; rw [htk.out, hM, hN, hP]; rfl
  have hac : Hid (x.accept nd b s = x.put s { x.pl s with acc := (x.pl s).acc ||| 2 ^ nd }) := if_pos hyes.out
  have has : Hid (x.accepts nd b s = x.most ((x.pl s).acc ||| 2 ^ nd)) := by show _ = _; simp [Pr.accepts, hyes.out]
  have c6 := place_any H3.out s (by omega)
  clear hP hN hM hs0 htk hno
  go_wp2_with fail
  refine Calls.mono c4 ?_
  rintro e w3 ⟨rfl, rfl⟩
  go_wp2_with fail
  refine Calls.mono c5 ?_
  rintro e w3 ⟨rfl, rfl⟩
  go_wp2_with fail
  go_step3
  refine ⟨_, rfl, ?_⟩
  go_wp2_with fail
  refine Calls.mono c6 ?_
  rintro e w4 ⟨G, m, cap, rfl, hm, hp, hk⟩
  obtain ⟨g0, g1, g2, g3, g4, g5, g6, g7, gf⟩ := hp.cells hm
  have lg := hp.rlt
  have HP : Hid (Po w4 P (.slice (some ⟨G, 0, none⟩) m cap) m x) := hp
  have HK : Hid (PS w w4 P v (.slice (some ⟨G, 0, none⟩) m cap)) := HS3.out.trans hk
  have ha5 := hp.ok.acc s
  have c7 := add_cell (k := nd) g7 (gf _) lg ha5 (by omega)
  have hst := hp.store hm 7 (by omega) (.int .u64 ((x.pl s).acc ||| 2 ^ nd : Nat)) { x.pl s with acc := (x.pl s).acc ||| 2 ^ nd } rfl (bit_or ha5 (by omega))
  have HT : Hid (Po (w4.setCell ⟨G, s * 8 + 7, none⟩ (.int .u64 ((x.pl s).acc ||| 2 ^ nd : Nat))).drew P (.slice (some ⟨G, 0, none⟩) m cap) m (x.accept nd b s)) := by
    show Po _ _ _ _ _
    rw [hac.out]
    exact hst.all ((Kept.refl _ _).drew)
  have HU : Hid (PS w (w4.setCell ⟨G, s * 8 + 7, none⟩ (.int .u64 ((x.pl s).acc ||| 2 ^ nd : Nat))).drew P v (.slice (some ⟨G, 0, none⟩) m cap)) := (HK.out.store _ _).trans (PS.all ((Kept.refl _ _).drew))
  clear hp hk c4 c5 c6 g0 g1 g2 g3 g4 g5 g6 g7 gf hst HP HK HS3 H3
  go_wp2_with fail
  refine Calls.mono c7 ?_
  rintro e w5 ⟨rfl, hw5⟩
  rw [← hw5] at HT HU
  clear hw5 c7
  obtain ⟨i0, i1, i2, i3, i4, i5, i6, i7, if_⟩ := HT.out.cells hm
  have hpl : (x.accept nd b s).pl s = { x.pl s with acc := (x.pl s).acc ||| 2 ^ nd } := by rw [hac.out, Pr.put_at]
  rw [hpl] at i7
  have c8 := most_any HT.out (m := (x.pl s).acc ||| 2 ^ nd) (bit_or ha5 (by omega))
  have hmo : Hid ((x.accept nd b s).most ((x.pl s).acc ||| 2 ^ nd) = x.accepts nd b s) := by
    show _ = _
    rw [has.out, hac.out]
    rfl
  rw [hmo.out] at c8
  clear i0 i1 i2 i3 i4 i5 i6 if_ hpl
  go_wp2_with fail
  refine Calls.mono c8 ?_
  rintro e w6 ⟨rfl, k, rfl⟩
  go_wp2
  simp only [Exit.noGoto]
  go_ret
  exact ⟨_, m, rfl, po_drew HT.out k, HU.out.trans (PS.all ((Kept.refl _ _).drewN k))⟩

end Go.Proofs.Ytpgoedpodfidjaa
