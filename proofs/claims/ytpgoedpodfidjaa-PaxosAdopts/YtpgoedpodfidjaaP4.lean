/-
  vote; gotos that go ahead.
-/
import Derived.Test.YtpgoedpodfidjaaP3
namespace Go.Proofs.Ytpgoedpodfidjaa
open Go.RowKit

/-- By a goto: on from its label, and no further goto. -/
def Exit.ahead (P : Program) (c : Code) (Q : Exit → Act → World → Prop) : Exit → Act → World → Prop
  | .goto l, a, w => ∃ rest, findLabel c l = some rest ∧ rest.wp P (Exit.noGoto Q) a w
  | e, a, w => Q e a w

/-- A scope whose gotos go ahead: the way from a label is walked where the jump comes. -/
theorem wp_scope_ahead {P : Program} {a : Act} {w : World} {Q : Exit → Act → World → Prop} {c : Code} (first : c.wp P (Exit.ahead P c Q) a w) : (Code.scope c).wp P Q a w := by
  intro b k cs
  obtain ⟨e, a₁, w₁, hq, harr⟩ := first b (.inScope c :: k) cs
  cases e with
  | normal => exact ⟨.normal, a₁, w₁, hq, .head step_scope (Steps.trans harr (.one step_inScope))⟩
  | exit id => exact ⟨.exit id, a₁, w₁, hq, fun k' hk => .head step_scope (harr k' (by simp [exitTo, hk]))⟩
  | goto l =>
    obtain ⟨rest, hf, hr⟩ := hq
    have hg : gotoIn l (.inScope c :: k) = some (.code rest :: .inScope c :: k) := by simp [gotoIn, hf]
    obtain ⟨e₂, a₂, w₂, hq₂, harr₂⟩ := hr b (.inScope c :: k) cs
    cases e₂ with
    | normal => exact ⟨.normal, a₂, w₂, hq₂, Steps.trans (.head step_scope (harr _ hg)) (Steps.trans harr₂ (.one step_inScope))⟩
    | exit id => exact ⟨.exit id, a₂, w₂, hq₂, fun k' hk => Steps.trans (.head step_scope (harr _ hg)) (harr₂ k' (by simp [exitTo, hk]))⟩
    | goto l' => exact hq₂.elim
    | ret => exact ⟨_, a₂, w₂, hq₂, .of_steps (.head step_scope (harr _ hg)) harr₂⟩
    | panic ch => exact ⟨_, a₂, w₂, hq₂, .of_steps (.head step_scope (harr _ hg)) harr₂⟩
    | outgrown => exact ⟨_, a₂, w₂, hq₂, .of_steps (.head step_scope (harr _ hg)) harr₂⟩
  | ret => exact ⟨_, a₁, w₁, hq, .of_steps (.one step_scope) harr⟩
  | panic ch => exact ⟨_, a₁, w₁, hq, .of_steps (.one step_scope) harr⟩
  | outgrown => exact ⟨_, a₁, w₁, hq, .of_steps (.one step_scope) harr⟩

/-- The cells of a place. -/
theorem Po.cells {w : World} {P G m cap : Nat} {x : Pr} (h : Po w P (.slice (some ⟨G, 0, none⟩) m cap) m x) {s : Nat} (hs : s < m) :
    w.cell? ⟨G, s * 8, none⟩ = some (.bool (x.pl s).voted) ∧ w.cell? ⟨G, s * 8 + 1, none⟩ = some (.int .i64 (x.pl s).best.s) ∧ w.cell? ⟨G, s * 8 + 2, none⟩ = some (.int .i64 (x.pl s).best.b.r) ∧ w.cell? ⟨G, s * 8 + 3, none⟩ = some (.int .i64 (x.pl s).best.b.n) ∧ w.cell? ⟨G, s * 8 + 4, none⟩ = some (.string (x.pl s).best.v) ∧
    w.cell? ⟨G, s * 8 + 5, none⟩ = some (.bool (x.pl s).picked) ∧ w.cell? ⟨G, s * 8 + 6, none⟩ = some (.string (x.pl s).value) ∧ w.cell? ⟨G, s * 8 + 7, none⟩ = some (.int .u64 (x.pl s).acc) ∧ ∀ j, w.frozen? ⟨G, j, none⟩ = false := by
  refine ⟨?_, ?_, ?_, ?_, ?_, ?_, ?_, ?_, fun j => h.row.frozenAt j⟩
  · exact (h.row.cellAt (s * 8) (by omega)).trans (prow_get x.pl hs 0 (by omega))
  · exact (h.row.cellAt (s * 8 + 1) (by omega)).trans (prow_get x.pl hs 1 (by omega))
  · exact (h.row.cellAt (s * 8 + 2) (by omega)).trans (prow_get x.pl hs 2 (by omega))
  · exact (h.row.cellAt (s * 8 + 3) (by omega)).trans (prow_get x.pl hs 3 (by omega))
  · exact (h.row.cellAt (s * 8 + 4) (by omega)).trans (prow_get x.pl hs 4 (by omega))
  · exact (h.row.cellAt (s * 8 + 5) (by omega)).trans (prow_get x.pl hs 5 (by omega))
  · exact (h.row.cellAt (s * 8 + 6) (by omega)).trans (prow_get x.pl hs 6 (by omega))
  · exact (h.row.cellAt (s * 8 + 7) (by omega)).trans (prow_get x.pl hs 7 (by omega))
theorem Po.rlt {w : World} {P G m cap : Nat} {x : Pr} (h : Po w P (.slice (some ⟨G, 0, none⟩) m cap) m x) : G < w.heap.size := by
  rcases h.row.2 with ⟨h', _⟩ | ⟨g', cap', cur, h', _, hg, _⟩
  · simp at h'
  · simp only [Value.slice.injEq, Option.some.injEq, Addr.mk.injEq, and_true, true_and] at h'
    obtain ⟨rfl, rfl⟩ := h'
    exact lt_of_block hg
theorem Po.own_lt {w : World} {P n : Nat} {v : Value} {x : Pr} (h : Po w P v n x) {i : Nat} (e : v.ownBlock = some i) : i < w.heap.size := by
  rcases h.row.2 with ⟨rfl, _⟩ | ⟨g, cap, cur, rfl, _, hg, _⟩
  · simp [Value.ownBlock] at e
  · simp [Value.ownBlock] at e
    subst e
    exact lt_of_block hg
theorem vcell {w : World} {b : Nat} {x y z u : Value} {t : TypeId} {fr : Nat × Nat} (h : w.heap[b]? = some (.cells #[x, y, z, u] t fr)) :
    w.cell? ⟨b, 0, none⟩ = some x ∧ w.cell? ⟨b, 1, none⟩ = some y ∧ w.cell? ⟨b, 2, none⟩ = some z ∧ w.cell? ⟨b, 3, none⟩ = some u := ⟨by simp [World.cell?, h], by simp [World.cell?, h], by simp [World.cell?, h], by simp [World.cell?, h]⟩
/-- A store into a place. -/
theorem Po.store {w : World} {P G m cap : Nat} {x : Pr} (h : Po w P (.slice (some ⟨G, 0, none⟩) m cap) m x) {s : Nat} (hs : s < m) (j : Nat) (hj : j < 8) (u : Value) (q : Pl) (hq : pcells q = (pcells (x.pl s)).set j u) (ha : q.acc < 32) :
    Po (w.setCell ⟨G, s * 8 + j, none⟩ u) P (.slice (some ⟨G, 0, none⟩) m cap) m (x.put s q) := by
  have hr := (h.row.stored (s * 8 + j) u).1
  have hne : P ≠ G := fun e => h.ne (by simp [Value.ownBlock, e])
  refine ⟨(heap_setCell_other w ⟨G, s * 8 + j, none⟩ P u hne).trans h.self, ?_, ?_, h.small, h.ok.put s ha⟩
  · rw [prow_set (g := (x.put s q).pl) hs hj (by simpa [Pr.put] using hq) (fun i hi => by simp [Pr.put, hi])] at hr
    exact hr
  · intro k hk
    show (if k = s then q else x.pl k) = _
    rw [if_neg (by omega)]
    exact h.top k hk
theorem Pr.put_put (x : Pr) (s : Nat) (q q' : Pl) : (x.put s q).put s q' = x.put s q' := by
  unfold Pr.put
  simp only
  congr 1
  funext k
  split <;> rfl
theorem Pr.put_at (x : Pr) (s : Nat) (q : Pl) : (x.put s q).pl s = q := by simp [Pr.put]
theorem Pr.put_same (x : Pr) (s : Nat) : x.put s (x.pl s) = x := by
  unfold Pr.put
  have : (fun k => if k = s then x.pl s else x.pl k) = x.pl := by
    funext k
    split
    · rename_i h; rw [h]
    · rfl
  rw [this]
theorem Po.best {w : World} {P G m cap : Nat} {x : Pr} (h : Po w P (.slice (some ⟨G, 0, none⟩) m cap) m x) {s : Nat} (hs : s < m) (y : Vo) :
    Po ((((w.setCell ⟨G, s * 8 + 1, none⟩ (.int .i64 y.s)).setCell ⟨G, s * 8 + 2, none⟩ (.int .i64 y.b.r)).setCell ⟨G, s * 8 + 3, none⟩ (.int .i64 y.b.n)).setCell ⟨G, s * 8 + 4, none⟩ (.string y.v)) P (.slice (some ⟨G, 0, none⟩) m cap) m (x.put s { x.pl s with best := y }) := by
  have ha := h.ok.acc s
  have h1 := h.store hs 1 (by omega) (.int .i64 y.s) { x.pl s with best := ⟨y.s, (x.pl s).best.b, (x.pl s).best.v⟩ } rfl ha
  have h2 := h1.store hs 2 (by omega) (.int .i64 y.b.r) { x.pl s with best := ⟨y.s, ⟨y.b.r, (x.pl s).best.b.n⟩, (x.pl s).best.v⟩ } (by rw [Pr.put_at]; rfl) ha
  have h3 := h2.store hs 3 (by omega) (.int .i64 y.b.n) { x.pl s with best := ⟨y.s, y.b, (x.pl s).best.v⟩ } (by rw [Pr.put_at]; rfl) ha
  have h4 := h3.store hs 4 (by omega) (.string y.v) { x.pl s with best := y } (by rw [Pr.put_at]; rfl) ha
  rw [Pr.put_put, Pr.put_put, Pr.put_put] at h4
  exact h4
theorem PS.store {w w' : World} {P G m cap : Nat} {v : Value} (k : PS w w' P v (.slice (some ⟨G, 0, none⟩) m cap)) (j : Nat) (u : Value) : PS w (w'.setCell ⟨G, j, none⟩ u) P v (.slice (some ⟨G, 0, none⟩) m cap) :=
  k.trans ⟨(Kept.refl _ _).setCell (fun h => h.2 rfl) _, fun _ h => .inl h⟩

set_option maxRecDepth 100000 in
set_option maxHeartbeats 1000000 in
theorem vote_any {w : World} {P n : Nat} {v : Value} {x : Pr} (h : Po w P v n x) (s : Int) (b : Bl) (t : ByteArray) :
    Calls Try.prog 29 #[.pointer (some ⟨P, 0, none⟩), .agg #[.int .i64 s, .int .i64 b.r, .int .i64 b.n, .string t]] w fun e w' => ∃ v' n', e = .returned (.tuple #[]) ∧ Po w' P v' n' (x.vote ⟨s, b, t⟩) ∧ PS w w' P v v' := by
  have H : Hid (Po w P v n x) := h
  have k1 : Kept (fun _ => True) w (w.alloc (.cells #[.int .i64 s, .int .i64 b.r, .int .i64 b.n, .string t] 33)) := (Kept.refl _ _).alloc _
  have c1 := asked_any (h.all k1) s
  have hb := heap_alloc_new w (.cells #[.int .i64 s, .int .i64 b.r, .int .i64 b.n, .string t] 33)
  have H1 : Hid (Po _ P v n x) := h.all k1
  clear h
  go_enter Try.func29, Try.ntmps29
  go_wp2
  refine wp_scope_ahead ?_
  cases hA : x.asked s
  · rw [hA] at c1
    go_wp2_with (go_at_call 31; refine Calls.mono c1 ?_; rintro e _ ⟨rfl, rfl⟩)
    simp only [Exit.ahead]
    refine bodyPost_ret (results_none rfl _ _ _) rfl ?_
    refine ⟨v, n, rfl, ?_, PS.all k1⟩
    rw [show x.vote ⟨s, b, t⟩ = x from if_neg (by simp [hA])]
    exact H1.out
  · rw [hA] at c1
    have ha : (x.frm : Int) ≤ s ∧ s < 512 := by simpa [Pr.asked] using hA
    obtain ⟨k, rfl⟩ : ∃ k : Nat, s = k := ⟨s.toNat, by omega⟩
    have c2 := place_any H1.out k (by omega)
    have hB : Hid (w.heap.size ≠ P ∧ v.ownBlock ≠ some w.heap.size) := ⟨Nat.ne_of_gt H.out.lt, fun e => absurd (H.out.own_lt e) (Nat.lt_irrefl _)⟩
    have hv : Hid (x.vote ⟨k, b, t⟩ = x.put k { x.pl k with voted := true, best := bestOf (x.pl k) ⟨k, b, t⟩ }) := if_pos hA
    have hac : Hid ((x.pl k).acc < 32) := H.out.ok.acc k
    have hl : Hid ((w.alloc (.cells #[.int .i64 (k : Int), .int .i64 b.r, .int .i64 b.n, .string t] 33)).heap.size = w.heap.size + 1) := by show _ = _; simp
    have hol : Hid (∀ i, v.ownBlock = some i → i < w.heap.size) := fun i e => H.out.own_lt e
    go_wp2_with (go_at_call 31; refine Calls.mono c1 ?_; rintro e _ ⟨rfl, rfl⟩)
    go_step3
    refine ⟨_, rfl, ?_⟩
    clear c1 ha hA
    generalize w.alloc (.cells #[.int .i64 (k : Int), .int .i64 b.r, .int .i64 b.n, .string t] 33) = w1 at *
    generalize w.heap.size = B at *
    obtain ⟨d0, d1, d2, d3⟩ := vcell hb
    go_wp2_with fail
    refine Calls.mono c2 ?_
    rintro e w2 ⟨G, m, cap, rfl, hm, hp, hk⟩
    have e0 := cell_kept hk.kept d0 hB.out
    have e1 := cell_kept hk.kept d1 hB.out
    have e2 := cell_kept hk.kept d2 hB.out
    have e3 := cell_kept hk.kept d3 hB.out
    obtain ⟨g0, g1, g2, g3, g4, g5, g6, g7, gf⟩ := hp.cells hm
    have gl := hp.rlt
    have hBG : ¬ B = G := by
      rintro rfl
      rcases hk.own _ rfl with q | q
      · exact absurd (hol.out _ q) (Nat.lt_irrefl _)
      · rw [hl.out] at q; exact absurd q (Nat.not_succ_le_self _)
    have HP : Hid (Po w2 P (.slice (some ⟨G, 0, none⟩) m cap) m x) := hp
    have HK : Hid (PS w1 w2 P v (.slice (some ⟨G, 0, none⟩) m cap)) := hk
    clear hp hk d0 d1 d2 d3 c2 hb
    have HQ : Hid (Po (w2.setCell ⟨G, k * 8, none⟩ (.bool true)) P (.slice (some ⟨G, 0, none⟩) m cap) m (x.put k { x.pl k with voted := true })) := HP.out.store hm 0 (by omega) (.bool true) _ rfl hac.out
    have HL : Hid (PS w (w2.setCell ⟨G, k * 8, none⟩ (.bool true)) P v (.slice (some ⟨G, 0, none⟩) m cap)) := (PS.all k1).trans (HK.out.store _ _)
    obtain ⟨r, nd⟩ := b
    by_cases hz : r = 0 ∧ nd = 0
    · obtain ⟨rfl, rfl⟩ := hz
      go_wp2_with fail
      simp only [Exit.noGoto]
      refine bodyPost_ret (results_none rfl _ _ _) rfl ?_
      refine ⟨_, m, rfl, ?_, HL.out⟩
      rw [hv.out]
      exact HQ.out
    · have hz3 : (r ≠ 0 ∧ (r == 0) = false) ∨ (r = 0 ∧ nd ≠ 0 ∧ (nd == 0) = false) := by
        by_cases h : r = 0
        · exact .inr ⟨h, fun q => hz ⟨h, q⟩, by simpa using fun q => hz ⟨h, q⟩⟩
        · exact .inl ⟨h, by simpa using h⟩
      letI := blDec
      have hbz : Hid (bestOf (x.pl k) ⟨k, ⟨r, nd⟩, t⟩ = if (x.pl k).best.b = ⟨0, 0⟩ ∨ less (x.pl k).best.b ⟨r, nd⟩ = true then ⟨k, ⟨r, nd⟩, t⟩ else (x.pl k).best) := if_neg (by simpa using fun a b => hz ⟨a, b⟩)
      have HQ2 := HQ.out.cells hm
      simp only [Pr.put, if_true] at HQ2
      have EB : Hid (Kept (· ≠ G) w2 (w2.setCell ⟨G, k * 8, none⟩ (.bool true))) := (Kept.refl _ _).setCell (by simp) _
      go_upto_region 5 with fail
      have y0 := cell_kept EB.out e0 hBG
      have y1 := cell_kept EB.out e1 hBG
      have y2 := cell_kept EB.out e2 hBG
      have y3 := cell_kept EB.out e3 hBG
      clear e0 e1 e2 e3 g0 g1 g2 g3 g4 g5 g6 g7 gf EB
      generalize w2.setCell ⟨G, k * 8, none⟩ (.bool true) = w3 at *
      go_cut [19] from 16 to 18 (fun u wx => u = .bool false ∧ w3 = wx)
      case first =>
        rcases hz3 with ⟨q1, q2⟩ | ⟨rfl, q1, q2⟩
        all_goals (go_wp2_with fail; go_meet; exact ⟨rfl, rfl⟩)
      case rest =>
      obtain ⟨rfl, rfl⟩ := hcut
      clear hz3
      obtain ⟨g0, g1, g2, g3, g4, g5, g6, g7, gf⟩ := HQ2
      clear g0 g1 g4 g5 g6 g7
      have lg := HQ.out.rlt
      obtain ⟨br, bn, hbb⟩ : ∃ br bn, (x.pl k).best.b = ⟨br, bn⟩ := ⟨_, _, rfl⟩
      simp only [hbb] at g2 g3
      have HB : Hid ((x.pl k).best.b = ⟨br, bn⟩) := hbb
      clear hbb hz
      have z0 : ∀ W, Kept (fun _ => True) w3 W → W.cell? ⟨B, 1, none⟩ = some (.int .i64 r) := fun W kk => cell_kept kk y1 trivial
      have z1 : ∀ W, Kept (fun _ => True) w3 W → W.cell? ⟨B, 2, none⟩ = some (.int .i64 nd) := fun W kk => cell_kept kk y2 trivial
      have u0 : ∀ W, Kept (fun _ => True) w3 W → W.cell? ⟨G, k * 8 + 2, none⟩ = some (.int .i64 br) := fun W kk => cell_kept kk g2 trivial
      have u1 : ∀ W, Kept (fun _ => True) w3 W → W.cell? ⟨G, k * 8 + 3, none⟩ = some (.int .i64 bn) := fun W kk => cell_kept kk g3 trivial
      have kd : Kept (fun _ => True) w3 w3.drew := (Kept.refl _ _).drew
      have c := fun W => less_raw (w := W) br bn r nd
      have hC : Hid (∀ C, C = (decide (br = 0 ∧ bn = 0) || less ⟨br, bn⟩ ⟨r, nd⟩) → bestOf (x.pl k) ⟨k, ⟨r, nd⟩, t⟩ = if C = true then ⟨k, ⟨r, nd⟩, t⟩ else (x.pl k).best) := by
        intro C hC
        rw [hbz.out, HB.out, hC]
        simp
      generalize hL : less ⟨br, bn⟩ ⟨r, nd⟩ = L at *
      go_upto_if 36 with fail
      go_cut [36] from 20 to 35 (fun u wx => u = .bool (decide (br = 0 ∧ bn = 0) || L) ∧ Kept (fun _ => True) w3 wx)
      case first =>
        by_cases hb0 : br = 0 ∧ bn = 0
        · obtain ⟨rfl, rfl⟩ := hb0
          have p0 := u0 _ (Kept.refl _ _)
          have p1 := u1 _ (Kept.refl _ _)
          clear u0 u1 z0 z1
          go_wp2_with fail
          go_quiet (fail)
          go_wp2_with fail
          go_meet
          exact ⟨by simp, (Kept.refl _ _).drewN _⟩
        · have hb3 : (br ≠ 0 ∧ (br == 0) = false) ∨ (br = 0 ∧ bn ≠ 0 ∧ (bn == 0) = false) := by
            by_cases h : br = 0
            · exact .inr ⟨h, fun q => hb0 ⟨h, q⟩, by simpa using fun q => hb0 ⟨h, q⟩⟩
            · exact .inl ⟨h, by simpa using h⟩
          have hd : Hid (decide (br = 0 ∧ bn = 0) = false) := by show _ = _; simpa using fun a b => hb0 ⟨a, b⟩
          rcases hb3 with ⟨q1, q2⟩ | ⟨rfl, q1, q2⟩
          all_goals
            go_wp2_with fail
            go_region_held (fun W => Kept (fun _ => True) w3 W) (assumption) (first | (go_at_call 34; refine Calls.mono (c _) ?_; rintro e w5 ⟨rfl, k5⟩; have k5' : Kept (fun _ => True) w3 w5 := kd.trans k5))
            all_goals (go_wp2_with fail; go_meet; exact ⟨by rw [hd.out]; simp, k5'⟩)
      case rest =>
      obtain ⟨hC1, k6⟩ := hcut
      have hC2 := hC.out _ rfl
      subst hC1
      have HQ6 : Hid (Po wc P (.slice (some ⟨G, 0, none⟩) m cap) m (x.put k { x.pl k with voted := true })) := HQ.out.all k6
      have HL6 : Hid (PS w wc P v (.slice (some ⟨G, 0, none⟩) m cap)) := HL.out.trans (PS.all k6)
      have HV : Hid (x.vote ⟨k, ⟨r, nd⟩, t⟩ = _) := hv.out
      generalize hCe : (decide (br = 0 ∧ bn = 0) || L) = C at *
      cases C
      · go_wp2
        go_end0
        refine ⟨_, m, rfl, ?_, HL6.out⟩
        rw [hv.out, hC2]
        exact HQ6.out
      · have p0 := cell_kept k6 y0 trivial
        have p1 := cell_kept k6 y1 trivial
        have p2 := cell_kept k6 y2 trivial
        have p3 := cell_kept k6 y3 trivial
        have lg6 := HQ6.out.rlt
        obtain ⟨g0, g1, g2, g3, g4, g5, g6, g7, gf⟩ := HQ6.out.cells hm
        clear u0 u1 z0 z1 c kd
        go_wp2
        go_end0
        refine ⟨_, m, rfl, ?_, (((HL6.out.store _ _).store _ _).store _ _).store _ _⟩
        rw [hv.out, hC2]
        have := HQ6.out.best hm ⟨k, ⟨r, nd⟩, t⟩
        rw [Pr.put_put, Pr.put_at] at this
        exact this

end Go.Proofs.Ytpgoedpodfidjaa
