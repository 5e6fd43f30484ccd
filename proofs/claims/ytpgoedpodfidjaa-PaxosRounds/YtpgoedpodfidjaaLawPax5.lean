/-
  PaxosRounds.
-/
import Derived.Test.YtpgoedpodfidjaaP8
import Derived.Test.YtpgoedpodfidjaaPBals
import Derived.Test.YtpgoedpodfidjaaSWithin
namespace Go.Proofs.Ytpgoedpodfidjaa
open Go.RowKit

theorem led_none {x : Pr} {a : Int} : (x.begins a).led = false := by
  show decide ((x.begins a).nodes < 2 * ones 0) = false
  rw [show ones 0 = 0 from by kernel_rfl]
  simp
theorem Bs.apart {w : World} {P n base : Nat} {v u : Value} {x : Pr} {l : List Bl} (h : Po w P v n x) (hv : Bs w base u l) : ∀ k, u.ownBlock = some k → k ≠ P ∧ v.ownBlock ≠ some k := by
  intro k hk
  obtain ⟨cur, fr, hh⟩ := hv.own hk
  refine ⟨fun e => ?_, fun e => ?_⟩
  · subst e
    rw [h.self] at hh
    simp at hh
  · rcases h.row.2 with ⟨rfl, _⟩ | ⟨g', cap', cur', rfl, _, hg', _⟩
    · simp [Value.ownBlock] at e
    · simp [Value.ownBlock] at e
      subst e
      rw [hh] at hg'
      simp at hg'
theorem PM.other {w0 w w' : World} {P n : Nat} {v u : Value} {x : Pr} (h : PM w0 w P v n x) (k : Kept (fun i => u.ownBlock ≠ some i) w w') (hu : ∀ k, u.ownBlock = some k → k ≠ P ∧ v.ownBlock ≠ some k) (hb : ∀ k, u.ownBlock = some k → w0.heap.size ≤ k) : PM w0 w' P v n x :=
  ⟨h.po.kept k (fun e => (hu P e).1 rfl) (fun i hi e => (hu i e).2 hi), h.kept.then k (fun i hi _ e => by have := hb i e; omega), h.p0, h.v0⟩
/-- An append onto a row that is another's. -/
theorem grown_kept {w w' : World} {o : Obj} {u : Value} (g : (w.alloc o).grownBy w' u.ownBlock) : Kept (fun i => u.ownBlock ≠ some i) w w' :=
  ((Kept.refl _ _).alloc o).grown g (fun _ _ e h => h e)

set_option maxRecDepth 100000 in
set_option maxHeartbeats 2000000 in
theorem paxosRounds_any {w : World} {a : Option Addr} {na ca : Nat} (ha : IsBals w a na) (me nodes : Int) :
    Calls Try.prog 6 #[.int .i64 me, .int .i64 nodes, .slice a na ca] w fun e w' => e = .returned (.bool true) ∧ Kept (fun _ => True) w w' := by
  have HS : Hid (IsBals w a na) := ha
  clear ha
  go_enter Try.func6, Try.ntmps6
  go_wp2_with fail
  refine Calls.mono (within_any _ 4 (by decide)) ?_
  rintro e w ⟨⟨N, hN, rfl⟩, rfl⟩
  go_wp2_with fail
  have hsub : (1 : Int) + (N : Int) - 1 = (N : Int) := by omega
  rw [hsub]
  refine Calls.mono (within_any _ N (by omega)) ?_
  rintro e w ⟨⟨m, hm, rfl⟩, rfl⟩
  go_wp2_with fail
  refine Calls.mono (pnew_any (by omega) (by omega) (by omega) (by omega)) ?_
  rintro e w1 ⟨P, rfl, h1, k1, hP⟩
  have H1 : Hid (PM w w1 P (.slice none 0 0) 0 (Pr.new m (1 + (N : Int)).toNat)) := ⟨h1, k1, by omega, fun i e => by simp [Value.ownBlock] at e⟩
  clear h1 k1 hP
  go_wp2_with fail
  go_loopw [9, 10] (fun t i wr => ∃ (k : Nat) (v : Value) (n : Nat) (x : Pr) (bs : List Bl), i = .int .i64 k ∧ k ≤ 20 ∧ PM w wr P v n x ∧ Bs wr w.heap.size t bs ∧ x.me = m ∧ (∀ b ∈ bs, b.r ≤ x.seen) ∧ x.seen ≤ 536870912 + k ∧ bs.length ≤ 2 * k) (fun _ i _ => 20 - (intOf i).toNat)
  case atStart => exact ⟨0, _, _, _, [], rfl, by omega, H1.out, Bs.nil _ _, rfl, by simp, by simp [Pr.new], by simp⟩
  case round =>
    obtain ⟨k, v, n, x, bs, rfl, hk, hx, hbs, hme, hall, hsn, hbl⟩ := hrel
    have HM : Hid (PM w wr P v n x) := hx
    have HB : Hid (Bs wr w.heap.size _ bs) := hbs
    have HA : Hid (∀ b ∈ bs, b.r ≤ x.seen) := hall
    obtain ⟨ba, bc, rfl⟩ := hbs.shape
    clear hx hbs hall H1
    by_cases hlt : k < na ∧ k < 20
    · obtain ⟨b, off, r, nd, rfl, hxx⟩ := bal_at HS.out hlt.1
      have HX : Hid (∀ w', Kept (fun _ => True) w w' → w'.cell? ⟨b, off + k * 2, none⟩ = some (.int .i64 r) ∧ w'.cell? ⟨b, off + k * 2 + 1, none⟩ = some (.int .i64 nd)) := hxx
      clear hxx
      obtain ⟨y0, y1⟩ := HX.out wr HM.out.kept
      have g1 : (k : Int) < (na : Int) := by omega
      have g2 : (k : Int) < 20 := by omega
      have g0 : (0 : Int) ≤ (k : Int) := by omega
      by_cases hr : 536870912 ≤ r
      · go_wp2_with fail
        go_roundw
        case rel => exact ⟨k + 1, v, n, x, bs, by go_num, by omega, HM.out, HB.out, hme, HA.out, by omega, by omega⟩
        case measure => simp [intOf]; omega
      · have hse : Hid ((x.sees r).seen = max x.seen r) := by
          show max x.seen (min r 1073741824) = _
          omega
        go_wp2_with fail
        refine Calls.mono (pseen_any HM.out.po r nd) ?_
        rintro e w2 ⟨rfl, h2, k2⟩
        have H2 : Hid (PM w w2 P v n (x.sees r)) := HM.out.self h2 k2
        have B2 : Hid (Bs w2 w.heap.size (.slice ba bs.length bc) bs) := HB.out.kept k2 (fun i hi => (Bs.apart HM.out.po HB.out i hi).1)
        have A2 : Hid (∀ b ∈ bs ++ [⟨r, nd⟩], b.r ≤ (x.sees r).seen) := by
          intro b hb
          rw [hse.out]
          rcases List.mem_append.1 hb with hb | hb
          · have := HA.out b hb; omega
          · simp at hb; subst hb; show r ≤ _; omega
        have hs2 : (x.sees r).seen ≤ 536870912 + k := by rw [hse.out]; omega
        have hme2 : Hid ((x.sees r).me = m) := hme
        clear h2 k2 HM HB HA y0 y1 hse hsn hme
        generalize x.sees r = y at *
        obtain ⟨z0, z1⟩ := HX.out w2 H2.out.kept
        go_wp2_with (at_builtin; refine wpList_append_bal rfl _ _ rfl w.heap.size _ bs rfl (B2.out.kept (p := fun _ => True) ((Kept.refl _ _).alloc _) (fun _ _ => trivial)) (Nat.le_trans H2.out.kept.size (by simp)) _ rfl ⟨r, nd⟩ (0, 0) (heap_alloc_new _ _) (by omega) ?_; intro ba3 bc3 w3 hown3 hgrow3)
        have H3 : Hid (PM w w3 P v n y) := H2.out.other (grown_kept hgrow3) (Bs.apart H2.out.po B2.out) (fun i e => (World.ownsRow.lt B2.out i e).1)
        have B3 : Hid (Bs w3 w.heap.size (.slice ba3 (bs.length + 1) bc3) (bs ++ [⟨r, nd⟩])) := hown3
        clear hown3 hgrow3 H2 B2 z0 z1
        refine Calls.mono (pbegin_any H3.out.po k (by omega)) ?_
        rintro e w4 ⟨rfl, h4, k4⟩
        have H4 : Hid (PM w w4 P (.slice none 0 0) 0 (y.begins k)) := H3.out.begun h4 k4
        have B4 : Hid (Bs w4 w.heap.size (.slice ba3 (bs.length + 1) bc3) (bs ++ [⟨r, nd⟩])) := B3.out.kept k4 (fun i hi => (Bs.apart H3.out.po B3.out i hi).1)
        have hled : Hid ((y.begins k).led = false) := led_none
        have hys := H3.out.po.ok.seen0
        have hzr : (y.begins k).b.r = y.seen + 1 := by
          show min (y.seen + 1) 1073741824 = _
          omega
        have hzs : (y.begins k).seen = y.seen + 1 := by
          show min (y.seen + 1) 1073741824 = _
          omega
        have hzn : (y.begins k).b.n = m := hme2.out
        have hzm : Hid ((y.begins k).me = m) := hme2.out
        clear h4 k4 H3 B3 hme2
        generalize y.begins k = z at *
        rw [hzr, hzn]
        go_upto_if 78 with fail
        have T5 : Hid (Two _ w4.heap.size (y.seen + 1) m) := Two.made w4 (y.seen + 1) m
        have k5 : Kept (fun _ => True) w4 (w4.alloc (.cells #[.int .i64 (y.seen + 1), .int .i64 (m : Int)] 27)) := (Kept.refl _ _).alloc _
        have H5 : Hid (PM w _ P (.slice none 0 0) 0 z) := H4.out.ahead k5
        have B5 : Hid (Bs _ w.heap.size (.slice ba3 (bs.length + 1) bc3) (bs ++ [⟨r, nd⟩])) := B4.out.kept (p := fun _ => True) k5 (fun _ _ => trivial)
        have hXn : Hid (∀ i, (Value.slice ba3 (bs.length + 1) bc3).ownBlock = some i → i ≠ w4.heap.size) := fun i hi => Nat.ne_of_lt (World.ownsRow.lt B4.out i hi).2
        clear k5 H4 B4
        generalize w4.alloc (.cells #[.int .i64 (y.seen + 1), .int .i64 (m : Int)] 27) = w5 at *
        generalize w4.heap.size = X at *
        have q0 : ∀ W, Kept (fun _ => True) w5 W → W.cell? ⟨X, 0, none⟩ = some (.int .i64 (y.seen + 1)) := fun W kk => cell_kept kk T5.out.c0 trivial
        have q1 : ∀ W, Kept (fun _ => True) w5 W → W.cell? ⟨X, 1, none⟩ = some (.int .i64 m) := fun W kk => cell_kept kk T5.out.c1 trivial
        have kd : Kept (fun _ => True) w5 w5.drew := (Kept.refl _ _).drew
        have cb := pballot_any (H5.out.ahead kd).po
        rw [hzr, hzn] at cb
        have hge : ¬ y.seen + 1 < 1 := by omega
        go_cut [78] from 64 to 77 (fun t wx => t = .bool false ∧ Kept (fun _ => True) w5 wx)
        case first =>
          go_wp2_with fail
          go_region_held (fun W => Kept (fun _ => True) w5 W) (assumption) (first
            | (go_at_call 9; refine Calls.mono cb ?_; rintro e w6 ⟨rfl, k6⟩; have k6' : Kept (fun _ => True) w5 w6 := kd.trans k6))
          all_goals (go_wp2_with fail; go_meet; exact ⟨by rw [decide_eq_false (by omega)], k6'⟩)
        case rest =>
        obtain ⟨rfl, k6⟩ := hcut
        have H6 : Hid (PM w wc P (.slice none 0 0) 0 z) := H5.out.ahead k6
        have B6 : Hid (Bs wc w.heap.size (.slice ba3 (bs.length + 1) bc3) (bs ++ [⟨r, nd⟩])) := B5.out.kept k6 (fun _ _ => trivial)
        have T6 : Hid (Two wc X (y.seen + 1) m) := T5.out.kept k6 trivial
        clear q0 q1 kd cb hge H5 B5 T5 k6
        have hcl : (bs ++ [(⟨r, nd⟩ : Bl)]).length = bs.length + 1 := by simp
        generalize bs ++ [(⟨r, nd⟩ : Bl)] = cs at *
        generalize bs.length = q at *
        go_wp2_with fail
        go_loopw [12] (fun t wy => ∃ j d : Nat, j ≤ q + 1 ∧ t = .int .i64 j ∧ wy = wc.drewN d) (fun t _ => q + 1 - (intOf t).toNat)
        case atStart => exact ⟨0, 0, Nat.zero_le _, rfl, rfl⟩
        case round =>
          obtain ⟨j, d, hj, rfl, rfl⟩ := hrel
          have kdd : Kept (fun _ => True) wc (wc.drewN d) := (Kept.refl _ _).drewN d
          by_cases hjl : j < q + 1
          · obtain ⟨g, rfl, c0, c1⟩ := B6.out.at j (by omega)
            obtain ⟨t0, t1⟩ := T6.out
            have hle := A2.out (cs[j]'(by omega)) (List.getElem_mem _)
            generalize cs[j]'(by omega) = cc at *
            have j1 : (j : Int) < (q : Int) + 1 := by omega
            have j0 : (0 : Int) ≤ (j : Int) := by omega
            have j2 : ¬ y.seen + 1 ≤ cc.r := by omega
            have j3 : decide (y.seen + 1 ≤ cc.r) = false := by simpa using j2
            go_wp2_with fail
            go_quiet (fail)
            go_wp2_with fail
            go_roundw
            case rel => exact ⟨j + 1, _, by omega, by go_num, rfl⟩
            case measure => simp [intOf]; omega
          · have hjq : j = q + 1 := by omega
            subst hjq
            obtain ⟨t0, t1⟩ := T6.out.kept kdd trivial
            have H7 : Hid (PM w (wc.drewN d) P (.slice none 0 0) 0 z) := H6.out.ahead kdd
            have B7 : Hid (Bs (wc.drewN d) w.heap.size (.slice ba3 (q + 1) bc3) cs) := B6.out.kept kdd (fun _ _ => trivial)
            generalize wc.drewN d = w7 at *
            clear H6 B6 T6 kdd
            go_wp2_with (at_builtin; refine wpList_append_bal rfl _ _ rfl w.heap.size _ cs rfl (B7.out.kept (p := fun _ => True) ((Kept.refl _ _).alloc _) (fun _ _ => trivial)) (Nat.le_trans H7.out.kept.size (by simp)) _ rfl ⟨y.seen + 1, m⟩ (0, 0) (heap_alloc_new _ _) (by omega) ?_; intro ba8 bc8 w8 hown8 hgrow8)
            have H8 : Hid (PM w w8 P (.slice none 0 0) 0 z) := H7.out.other (grown_kept hgrow8) (Bs.apart H7.out.po B7.out) (fun i e => (World.ownsRow.lt B7.out i e).1)
            have B8 : Hid (Bs w8 w.heap.size (.slice ba8 (q + 1 + 1) bc8) (cs ++ [⟨y.seen + 1, m⟩])) := by
              show Bs _ _ _ _
              rw [← hcl]
              exact hown8
            clear hown8 hgrow8 H7 B7
            have cl := led_any H8.out.po
            rw [hled.out] at cl
            refine Calls.mono cl ?_
            rintro e w9 ⟨rfl, d9, rfl⟩
            have k9 : Kept (fun _ => True) w8 (w8.drewN d9) := (Kept.refl _ _).drewN d9
            go_wp2_with fail
            go_roundw
            case rel =>
              refine ⟨k + 1, _, _, z, cs ++ [⟨y.seen + 1, m⟩], by go_num, by omega, H8.out.ahead k9, B8.out.kept k9 (fun _ _ => trivial), hzm.out, fun b hb => ?_, by omega, by simp; omega⟩
              rw [hzs]
              rcases List.mem_append.1 hb with hb | hb
              · have := A2.out b hb; omega
              · simp at hb; subst hb; exact Int.le_refl _
            case measure => simp [intOf]; omega
    · have hex : ¬ (k : Int) < (na : Int) ∨ ((k : Int) < (na : Int) ∧ ¬ (k : Int) < 20) := by omega
      clear HS hlt
      rcases hex with hex | hex
      all_goals
        go_wp2_with fail
        refine Calls.mono pknown_any ?_
        rintro e w2 ⟨rfl, k2⟩
        go_wp2
        go_ret
        exact ⟨rfl, HM.out.kept.trans k2⟩

end Go.Proofs.Ytpgoedpodfidjaa
