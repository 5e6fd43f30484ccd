/-
  NetPlays: whatever the number of nodes and the calls: true, and nothing old is written.
-/
import Derived.Test.YtlgcecndfejngaaNPair
import Derived.Deep.CutRange
import Derived.Deep.RegionHeld
namespace Go.Proofs.Ytlgcecndfejngaa
open Go.RowKit

theorem erase_fst (l : List (Ms × Value)) (q : Nat) : (l.map Prod.fst).eraseIdx q = (l.eraseIdx q).map Prod.fst := by
  induction l generalizing q with
  | nil => simp
  | cons x l ih => cases q with
    | zero => rfl
    | succ q => simp [ih]

set_option maxRecDepth 100000 in
set_option maxHeartbeats 1000000 in
theorem netPlays_bad {w : World} {a : Option Addr} {na ca : Nat} (n : Int) (hn : n < 1 ∨ 5 < n) :
    Calls Try.prog 4 #[.int .i64 n, .slice a na ca] w fun e w' => e = .returned (.bool true) ∧ Kept (fun _ => True) w w' := by
  have c := new_bad (w := w) n hn
  by_cases g1 : n < 1
  · clear hn
    go_enter Try.func4, Try.ntmps4
    go_wp2_with fail
    refine Calls.mono c ?_
    rintro e w ⟨rfl, rfl⟩
    go_wp2_with fail
    refine Calls.mono (known_any _) ?_
    rintro e w1 ⟨rfl, k1⟩
    go_wp2
    go_ret
    exact ⟨rfl, k1⟩
  · have g2 : 5 < n := by omega
    clear hn
    go_enter Try.func4, Try.ntmps4
    go_wp2_with fail
    refine Calls.mono c ?_
    rintro e w ⟨rfl, rfl⟩
    go_wp2_with fail
    refine Calls.mono (known_any _) ?_
    rintro e w1 ⟨rfl, k1⟩
    go_wp2
    go_ret
    exact ⟨rfl, k1⟩

set_option maxRecDepth 100000 in
set_option maxHeartbeats 4000000 in
theorem netPlays_ok {w : World} {a : Option Addr} {na ca : Nat} (ha : IsAsks w a na) (n : Int) (h1 : 1 ≤ n) (h5 : n ≤ 5) :
    Calls Try.prog 4 #[.int .i64 n, .slice a na ca] w fun e w' => e = .returned (.bool true) ∧ Kept (fun _ => True) w w' := by
  have HA : Hid (IsAsks w a na) := ha
  clear ha
  have c := new_ok (w := w) n h1 h5
  have g1 : ¬ (n < 1) := by omega
  have g2 : ¬ (5 < n) := by omega
  clear h1 h5
  go_enter Try.func4, Try.ntmps4
  go_wp2_with fail
  refine Calls.mono c ?_
  rintro e w1 ⟨rfl, d1, k1⟩
  clear c
  have m1 : Hid (Own1 w w1 w.heap.size (fun x => x = w.heap.size) (.slice none 0 0) [] n 0) := Own1.new d1 k1
  have hD : Hid (w.heap.size < w1.heap.size) := d1.lt
  clear d1 k1
  have p1 : Hid (Both w (w1.alloc (.cells #[.int .i64 n, .slice none 0 0, .int .i64 0] 41)) w.heap.size (fun x => x = w.heap.size) (.slice none 0 0) [] 0 w1.heap.size (fun x => x = w1.heap.size) (.slice none 0 0) [] 0 n) := by
    have k : Kept (fun _ => True) w1 (w1.alloc (.cells #[.int .i64 n, .slice none 0 0, .int .i64 0] 41)) := (Kept.refl _ _).alloc _
    have hs := heap_alloc_new w1 (.cells #[.int .i64 n, .slice none 0 0, .int .i64 0] 41)
    have := hD.out
    exact ⟨m1.out.ahead k, ⟨⟨hs, World.ownsRow_nil _ _ _ _, by decide, by simp, by simp⟩, rfl, by simp [Value.ownBlock], fun x hx => by rw [hx]; exact lt_of_block hs⟩, fun x hx => by omega, fun x hx e => by omega⟩
  obtain ⟨D, eD⟩ : ∃ D, D = w.heap.size := ⟨_, rfl⟩
  rw [← eD] at p1 ⊢
  clear eD m1 hD
  go_wp2
  generalize (fun x => x = D) = F1 at *
  generalize (fun x => x = w1.heap.size) = F2 at *
  generalize w1.alloc (.cells #[.int .i64 n, .slice none 0 0, .int .i64 0] 41) = w2 at *
  generalize w1.heap.size = E at *
  go_loopw [8] (fun t wr => ∃ (k s : Nat) (F1 : Nat → Prop) (v1 : Value) (ps : List (Ms × Value)) (F2 : Nat → Prop) (v2 : Value), k ≤ 120 ∧ t = .int .i64 k ∧ ps.length ≤ k ∧ s ≤ k ∧ Both w wr D F1 v1 ps s E F2 v2 (ps.map Prod.fst) s n) (fun t _ => 120 - (intOf t).toNat)
  case atStart => exact ⟨0, 0, F1, _, [], F2, _, Nat.zero_le _, rfl, Nat.zero_le _, Nat.zero_le _, p1.out⟩
  case round =>
    clear p1
    obtain ⟨k, s, F1, v1, ps, F2, v2, hk, rfl, hP, hs, hp⟩ := hrel
    have p : Hid (Both w wr D F1 v1 ps s E F2 v2 (ps.map Prod.fst) s n) := hp
    clear hp
    by_cases hlt : k < na ∧ k < 120
    · obtain ⟨hl1, hl2⟩ := hlt
      obtain ⟨ab, ao, x, rfl, hab, x0, x1, x2, x3, x4, hI, hS⟩ := HA.out k hl1
      have q0 : wr.cell? ⟨ab, ao + k * 5, none⟩ = some (.int .i64 x.kind) := (kept_cell p.out.one.kept hab trivial).trans x0
      have q1 : wr.cell? ⟨ab, ao + k * 5 + 1, none⟩ = some (.int .i64 x.f) := (kept_cell p.out.one.kept hab trivial).trans x1
      have q2 : wr.cell? ⟨ab, ao + k * 5 + 2, none⟩ = some (.int .i64 x.t) := (kept_cell p.out.one.kept hab trivial).trans x2
      have q3 : wr.cell? ⟨ab, ao + k * 5 + 3, none⟩ = some (.int .i64 x.n) := (kept_cell p.out.one.kept hab trivial).trans x3
      have q4 : wr.cell? ⟨ab, ao + k * 5 + 4, none⟩ = some (.string ⟨x.s.toArray⟩) := (kept_cell p.out.one.kept hab trivial).trans x4
      have g3 : (k : Int) < (na : Int) := by omega
      have g4 : (k : Int) < 120 := by omega
      have g0 : (0 : Int) ≤ (k : Int) := by omega
      have HI : Hid (I64 x.n) := hI
      have HS : Hid (x.s.length ≤ 140737488355328) := hS
      obtain ⟨kind, f, t, m, bs⟩ := x
      clear x0 x1 x2 x3 x4 hI hS
      go_upto_region 11 with fail
      iterate 10 (first | go_values | go_skip | go_guarded | go_step | go_upon | go_back)
      obtain ⟨G, eG⟩ : ∃ G, G = wr.heap.size := ⟨_, rfl⟩
      have r2 := heap_alloc_new wr (.cells #[.int .i64 kind, .int .i64 f, .int .i64 t, .int .i64 m, .string ⟨bs.toArray⟩] 43)
      have p2 : Hid (Both w (wr.alloc (.cells #[.int .i64 kind, .int .i64 f, .int .i64 t, .int .i64 m, .string ⟨bs.toArray⟩] 43)) D F1 v1 ps s E F2 v2 (ps.map Prod.fst) s n) := p.out.ahead ((Kept.refl _ _).alloc _)
      have O2 : Hid (Out (wr.alloc (.cells #[.int .i64 kind, .int .i64 f, .int .i64 t, .int .i64 m, .string ⟨bs.toArray⟩] 43)) F1 F2 wr.heap.size) := ⟨lt_of_block r2, fun q => by have := p.out.one.net.lt _ q; omega, fun q => by have := p.out.two.lt _ q; omega⟩
      clear q0 q1 q2 q3 q4 p
      rw [← eG] at r2 O2 ⊢
      generalize wr.alloc (.cells #[.int .i64 kind, .int .i64 f, .int .i64 t, .int .i64 m, .string ⟨bs.toArray⟩] 43) = w2 at *
      clear eG
      go_cut [10, 11, 12, 13] from 61 to 125 (fun _ _ _ _ wx => ∃ (s' : Nat) (F1 : Nat → Prop) (v1 : Value) (ps : List (Ms × Value)) (F2 : Nat → Prop) (v2 : Value), ps.length ≤ k + 1 ∧ s' ≤ k + 1 ∧ Both w wx D F1 v1 ps s' E F2 v2 (ps.map Prod.fst) s' n)
      case first =>
        have hlt := O2.out.lt
        have hG1 : ∀ W, Kept (· = G) w2 W → W.cell? ⟨G, 1, none⟩ = some (.int .i64 f) := fun W k => (kept_cell k hlt rfl).trans (by simp [World.cell?, r2])
        have hG2 : ∀ W, Kept (· = G) w2 W → W.cell? ⟨G, 2, none⟩ = some (.int .i64 t) := fun W k => (kept_cell k hlt rfl).trans (by simp [World.cell?, r2])
        have hG3 : ∀ W, Kept (· = G) w2 W → W.cell? ⟨G, 3, none⟩ = some (.int .i64 m) := fun W k => (kept_cell k hlt rfl).trans (by simp [World.cell?, r2])
        have hG4 : ∀ W, Kept (· = G) w2 W → W.cell? ⟨G, 4, none⟩ = some (.string ⟨bs.toArray⟩) := fun W k => (kept_cell k hlt rfl).trans (by simp [World.cell?, r2])
        clear r2 hlt
        have kd1 : Kept (· = G) w2 w2.drew := (Kept.refl _ _).drew
        have p3 : Hid (Both w w2.drew D F1 v1 ps s E F2 v2 (ps.map Prod.fst) s n) := p2.out.ahead ((Kept.refl _ _).drewN 1)
        have O3 : Hid (Out w2.drew F1 F2 G) := O2.out.ahead ((Kept.refl _ _).drewN 1)
        by_cases h1 : kind = 1
        · subst h1
          obtain ⟨cp, w3, cv, hh3, k3, -, -⟩ := conv_str w2.drew bs
          have kd2 : Kept (· = G) w2 w3 := kd1.trans (k3.mono (fun _ _ _ => trivial))
          have p4 : Hid (Both w w3 D F1 v1 ps s E F2 v2 (ps.map Prod.fst) s n) := p3.out.ahead k3
          have O4 : Hid (Out w3 F1 F2 G) := O3.out.ahead k3
          have HH : Hid (Has w3 (some ⟨w2.drew.heap.size, 0, none⟩) bs) := hh3
          clear hh3 k3 hG3 p2 O2 p3 O3
          by_cases hok : (0 ≤ f ∧ f < n) ∧ (0 ≤ t ∧ t < n)
          · have c1 := send_any (cap := cp) p4.out.one.net f t hok.1 hok.2 (by omega) (by simp [IntKind.wrap, IntKind.bits, IntKind.signed]; omega) HH.out (by simp) HS.out
            have HOK : Hid ((0 ≤ f ∧ f < n) ∧ (0 ≤ t ∧ t < n)) := hok
            clear hok
            go_wp2_with fail
            go_region_held (fun W => Kept (· = G) w2 W) (assumption) (first
              | (go_at_call 9; refine Calls.mono c1 ?_; rintro e w5 ⟨rfl, F1', v1', u, s5⟩; have p5 : Hid (Both w w5 D F1' v1' _ (s + 1) E F2 v2 (ps.map Prod.fst) s n) := p4.out.stepOne s5; have O5 : Hid (Out w5 F1' F2 G) := (O4.out.stepOne s5).1; have kd3 : Kept (· = G) w2 w5 := kd2.trans (O4.out.stepOne s5).2; clear s5)
              | (go_at_call 16; refine Calls.mono (rsend_any p5.out.two f t HOK.out.1 HOK.out.2 (by rw [List.length_map]; omega) (by simp [IntKind.wrap, IntKind.bits, IntKind.signed]; omega) bs) ?_; rintro e w6 ⟨rfl, F2', v2', s6⟩; have p6 : Hid (Both w w6 D F1' v1' _ (s + 1) E F2' v2' _ (s + 1) n) := p5.out.stepTwo s6; have kd4 : Kept (· = G) w2 w6 := kd3.trans (O5.out.stepTwo s6).2; clear s6))
            all_goals
              go_wp2_with fail
              go_meet
              refine ⟨s + 1, F1', v1', ps ++ [(⟨f, t, bs⟩, u)], F2', v2', ?_, ?_, ?_⟩
              · rw [List.length_append]; simp; omega
              · omega
              · have := p6.out
                rw [List.map_append]
                exact_mod_cast this
          · have c1 := send_bad p4.out.one.net f t hok (some ⟨w2.drew.heap.size, 0, none⟩) bs.length cp
            have c2 := rsend_bad p4.out.two f t hok ⟨bs.toArray⟩
            clear hok
            go_wp2_with fail
            go_region_held (fun W => Kept (· = G) w2 W) (assumption) (first
              | (go_at_call 9; refine Calls.mono c1 ?_; rintro e _ ⟨rfl, rfl⟩)
              | (go_at_call 16; refine Calls.mono c2 ?_; rintro e _ ⟨rfl, rfl⟩))
            all_goals
              go_wp2_with fail
              go_meet
              exact ⟨s, F1, v1, ps, F2, v2, by omega, by omega, p4.out⟩
        · by_cases h0 : ps.length = 0
          · obtain rfl : ps = [] := List.eq_nil_of_length_eq_zero h0
            clear h0
            by_cases h2 : kind = 2
            · subst h2
              have q3 := hG3 w2 (Kept.refl _ _)
              have c := take_empty p2.out.one.net m
              clear hG1 hG2 hG4 p3 O3 kd1
              go_wp2_with fail
              refine Calls.mono c ?_
              rintro e w3 ⟨rfl, k3⟩
              clear c q3
              have k4 : Kept (fun _ => True) w2 (w3.alloc (.cells #[.int .i64 0, .int .i64 0, .slice none 0 0] 30)) := k3.alloc _
              have p4 : Hid (Both w (w3.alloc (.cells #[.int .i64 0, .int .i64 0, .slice none 0 0] 30)) D F1 v1 [] s E F2 v2 ([].map Prod.fst) s n) := p2.out.ahead k4
              have q4 := hG3 _ (k4.mono (fun _ _ _ => trivial))
              have rx := heap_alloc_new w3 (.cells #[.int .i64 0, .int .i64 0, .slice none 0 0] 30)
              clear k3 k4 hG3 p2 O2
              go_wp2_with fail
              generalize w3.alloc (.cells #[.int .i64 0, .int .i64 0, .slice none 0 0] 30) = w4 at *
              generalize w3.heap.size = X at *
              refine Calls.mono (rtake_empty p4.out.two m) ?_
              rintro e w5 ⟨rfl, k5⟩
              have k6 : Kept (fun _ => True) w4 (w5.alloc (.cells #[.int .i64 0, .int .i64 0, .string ⟨#[]⟩] 46)) := k5.alloc _
              have p6 : Hid (Both w (w5.alloc (.cells #[.int .i64 0, .int .i64 0, .string ⟨#[]⟩] 46)) D F1 v1 [] s E F2 v2 ([].map Prod.fst) s n) := p4.out.ahead k6
              obtain ⟨y0, y1, y2, -, -, -⟩ := three_cell ((k6.block _ (lt_of_block rx) trivial).trans rx)
              have c := same_any (w := w5.alloc (.cells #[.int .i64 0, .int .i64 0, .string ⟨#[]⟩] 46)) (f := 0) (t := 0) (bs := []) (cap := 0) (ao := none) (b := 0) (World.ownsRow_nil _ _ _ _)
              clear k5 k6 rx q4 p4
              go_wp2_with fail
              refine Calls.mono c ?_
              rintro e w7 ⟨rfl, k7⟩
              go_wp2_with fail
              go_meet
              exact ⟨s, F1, v1, [], F2, v2, by simp, by omega, p6.out.ahead k7⟩
            · by_cases h3 : kind = 3
              · subst h3
                have c1 := drop_empty p3.out.one.net m
                have c2 := rdrop_empty p3.out.two m
                clear hG1 hG2 hG4 p2 O2
                go_wp2_with fail
                go_region_held (fun W => Kept (· = G) w2 W) (assumption) (first
                  | (go_at_call 11; refine Calls.mono c1 ?_; rintro e _ ⟨rfl, rfl⟩)
                  | (go_at_call 19; refine Calls.mono c2 ?_; rintro e w5 ⟨rfl, k5⟩; have kd2 : Kept (· = G) w2 w5 := kd1.trans (k5.mono (fun _ _ _ => trivial))))
                all_goals
                  go_wp2_with fail
                  go_meet
                  exact ⟨s, F1, v1, [], F2, v2, by simp, by omega, p3.out.ahead k5⟩
              · have c1 := twice_empty p3.out.one.net m
                have c2 := rtwice_empty p3.out.two m
                clear hG1 hG2 hG4 p2 O2
                go_wp2_with fail
                go_region_held (fun W => Kept (· = G) w2 W) (assumption) (first
                  | (go_at_call 10; refine Calls.mono c1 ?_; rintro e _ ⟨rfl, rfl⟩)
                  | (go_at_call 20; refine Calls.mono c2 ?_; rintro e _ ⟨rfl, rfl⟩))
                all_goals
                  go_wp2_with fail
                  go_meet
                  exact ⟨s, F1, v1, [], F2, v2, by simp, by omega, p3.out⟩
          · obtain ⟨q, hq⟩ : ∃ q, ps[spot m ps.length]? = some q := ⟨_, List.getElem?_eq_getElem (spot_lt m (by omega))⟩
            have hq2 : (ps.map Prod.fst)[spot m (ps.map Prod.fst).length]? = some q.1 := by rw [List.length_map, List.getElem?_map, hq]; rfl
            have EQ : Hid ((ps.map Prod.fst).eraseIdx (spot m (ps.map Prod.fst).length) = (ps.eraseIdx (spot m ps.length)).map Prod.fst) := by show _ = _; rw [List.length_map, erase_fst]
            have EL : Hid ((ps.eraseIdx (spot m ps.length)).length ≤ k + 1) := by show _ ≤ _; have := List.length_eraseIdx_le ps (spot m ps.length); omega
            by_cases h2 : kind = 2
            · subst h2
              have q3 := hG3 w2 (Kept.refl _ _)
              have c := take_any p2.out.one.net m HI.out hq
              have HQ2 : Hid ((ps.map Prod.fst)[spot m (ps.map Prod.fst).length]? = some q.1) := hq2
              have HF2 : Hid (∀ x, F2 x → x < w2.heap.size) := p2.out.two.lt
              clear hG1 hG2 hG4 p3 O3 kd1 hq hq2 h0
              obtain ⟨⟨qf, qt, qb⟩, qu⟩ := q
              go_wp2_with fail
              refine Calls.mono c ?_
              rintro e w3 ⟨bo, bc, v1', rfl, o3, s3⟩
              clear c q3
              have k4 : Kept (fun _ => True) w3 (w3.alloc (.cells #[.int .i64 qf, .int .i64 qt, .slice bo qb.length bc] 30)) := (Kept.refl _ _).alloc _
              have p4 : Hid (Both w (w3.alloc (.cells #[.int .i64 qf, .int .i64 qt, .slice bo qb.length bc] 30)) D F1 v1' (ps.eraseIdx (spot m ps.length)) s E F2 v2 (ps.map Prod.fst) s n) := (p2.out.stepOne s3).ahead k4
              have q4 := hG3 _ ((O2.out.stepOne s3).2.trans (k4.mono (fun _ _ _ => trivial)))
              have rx := heap_alloc_new w3 (.cells #[.int .i64 qf, .int .i64 qt, .slice bo qb.length bc] 30)
              have o4 := own_kept o3 k4 (fun _ _ => trivial)
              have nX : Hid (¬ F2 w3.heap.size) := fun z => by have := HF2.out _ z; have := s3.kept.size; omega
              have nB : Hid (∀ x, (Value.slice bo qb.length bc).ownBlock = some x → ¬ F2 x) := fun x hx z => by have := HF2.out _ z; have := (o3.lt x hx).1; omega
              clear k4 hG3 p2 O2 s3 o3
              go_wp2_with fail
              generalize w3.alloc (.cells #[.int .i64 qf, .int .i64 qt, .slice bo qb.length bc] 30) = w4 at *
              generalize w3.heap.size = X at *
              refine Calls.mono (rtake_any p4.out.two m HI.out HQ2.out) ?_
              rintro e w5 ⟨rfl, F2', v2', s5⟩
              have k6 : Kept (fun _ => True) w5 (w5.alloc (.cells #[.int .i64 qf, .int .i64 qt, .string ⟨qb.toArray⟩] 46)) := (Kept.refl _ _).alloc _
              have p6 : Hid (Both w (w5.alloc (.cells #[.int .i64 qf, .int .i64 qt, .string ⟨qb.toArray⟩] 46)) D F1 v1' (ps.eraseIdx (spot m ps.length)) s E F2' v2' ((ps.eraseIdx (spot m ps.length)).map Prod.fst) s n) := by
                have := (p4.out.stepTwo s5).ahead k6
                rw [EQ.out] at this
                exact this
              have kz := s5.kept.trans (k6.mono (fun _ _ _ => trivial))
              obtain ⟨y0, y1, y2, -, -, -⟩ := three_cell ((kz.block _ (lt_of_block rx) nX.out).trans rx)
              have c := same_any (f := qf) (t := qt) (own_kept o4 kz nB.out)
              clear k6 kz rx q4 p4 s5 o4
              go_wp2_with fail
              refine Calls.mono c ?_
              rintro e w7 ⟨rfl, k7⟩
              go_wp2_with fail
              go_meet
              exact ⟨s, F1, v1', _, F2', v2', EL.out, by omega, p6.out.ahead k7⟩
            · by_cases h3 : kind = 3
              · subst h3
                have c1 := drop_any p3.out.one.net (by omega) m HI.out
                clear hG1 hG2 hG4 p2 O2 hq hq2
                go_wp2_with fail
                go_region_held (fun W => Kept (· = G) w2 W) (assumption) (first
                  | (go_at_call 11; refine Calls.mono c1 ?_; rintro e w5 ⟨rfl, v1', s5⟩; have p5 : Hid (Both w w5 D F1 v1' _ s E F2 v2 (ps.map Prod.fst) s n) := p3.out.stepOne s5; have O5 : Hid (Out w5 F1 F2 G) := (O3.out.stepOne s5).1; have kd3 : Kept (· = G) w2 w5 := kd1.trans (O3.out.stepOne s5).2; clear s5)
                  | (go_at_call 19; refine Calls.mono (rdrop_any p5.out.two (by rw [List.length_map]; omega) m HI.out) ?_; rintro e w6 ⟨rfl, F2', v2', s6⟩; have p6 : Hid (Both w w6 D F1 v1' _ s E F2' v2' _ s n) := p5.out.stepTwo s6; have kd4 : Kept (· = G) w2 w6 := kd3.trans (O5.out.stepTwo s6).2; clear s6))
                all_goals
                  go_wp2_with fail
                  go_meet
                  refine ⟨s, F1, v1', _, F2', v2', EL.out, by omega, ?_⟩
                  have := p6.out
                  rw [EQ.out] at this
                  exact this
              · have c1 := twice_any p3.out.one.net (by omega) m HI.out hq
                have HQ2 : Hid ((ps.map Prod.fst)[spot m (ps.map Prod.fst).length]? = some q.1) := hq2
                clear hG1 hG2 hG4 p2 O2 hq hq2
                go_wp2_with fail
                go_region_held (fun W => Kept (· = G) w2 W) (assumption) (first
                  | (go_at_call 10; refine Calls.mono c1 ?_; rintro e w5 ⟨rfl, F1', v1', s5⟩; have p5 : Hid (Both w w5 D F1' v1' _ s E F2 v2 (ps.map Prod.fst) s n) := p3.out.stepOne s5; have O5 : Hid (Out w5 F1' F2 G) := (O3.out.stepOne s5).1; have kd3 : Kept (· = G) w2 w5 := kd1.trans (O3.out.stepOne s5).2; clear s5)
                  | (go_at_call 20; refine Calls.mono (rtwice_any p5.out.two (by rw [List.length_map]; omega) m HI.out HQ2.out) ?_; rintro e w6 ⟨rfl, F2', v2', s6⟩; have p6 : Hid (Both w w6 D F1' v1' _ s E F2' v2' _ s n) := p5.out.stepTwo s6; have kd4 : Kept (· = G) w2 w6 := kd3.trans (O5.out.stepTwo s6).2; clear s6))
                all_goals
                  go_wp2_with fail
                  go_meet
                  refine ⟨s, F1', v1', ps ++ [q], F2', v2', ?_, by omega, ?_⟩
                  · rw [List.length_append]; simp; omega
                  · have := p6.out
                    rw [List.map_append]
                    exact this
      case rest =>
        clear p2 O2 r2 HI HS
        obtain ⟨s', F1', v1', ps', F2', v2', hl', hs', hb⟩ := hcut
        have p9 : Hid (Both w wc D F1' v1' ps' s' E F2' v2' (ps'.map Prod.fst) s' n) := hb
        clear hb
        obtain ⟨z0, z1, z2, -, -, -⟩ := three_cell p9.out.two.nt.self
        obtain ⟨bo, bc, rfl, -, -, -⟩ := p9.out.two.nt.shape
        rw [List.length_map, List.length_map] at z1
        have hE1 : ∀ W, Kept (fun _ => True) wc W → W.cell? ⟨E, 1, none⟩ = some (.slice bo ps'.length bc) := fun W k => (kept_cell k p9.out.two.nt.lt trivial).trans z1
        have hE2 : ∀ W, Kept (fun _ => True) wc W → W.cell? ⟨E, 2, none⟩ = some (.int .i64 ((s' : Nat) : Int)) := fun W k => (kept_cell k p9.out.two.nt.lt trivial).trans z2
        have kd1 : Kept (fun _ => True) wc wc.drew := (Kept.refl _ _).drew
        clear z0 z1 z2
        have c1 := sent_any (p9.out.ahead kd1).one.net.nt
        have c2 := pending_any (p9.out.ahead kd1).one.net
        go_wp2_with fail
        go_region_held (fun W => Kept (fun _ => True) wc W) (assumption) (first
          | (go_at_call 13; refine Calls.mono c1 ?_; rintro e _ ⟨rfl, rfl⟩)
          | (go_at_call 14; refine Calls.mono c2 ?_; rintro e w10 ⟨rfl, L10, qs10, hL10⟩; have kd2 : Kept (fun _ => True) wc w10 := kd1.trans hL10.kept; clear hL10))
        all_goals
          go_wp2_with fail
          go_roundw
          case rel => exact ⟨k + 1, s', F1', v1', ps', F2', _, by omega, by go_num, hl', hs', p9.out.ahead kd2⟩
          case measure => simp [intOf]; omega
    · have hcond : ¬ ((k : Int) < (na : Int)) ∨ ((k : Int) < (na : Int) ∧ ¬ ((k : Int) < 120)) := by omega
      have c := pending_any p.out.one.net
      obtain ⟨bo, bc, rfl, -, -, hg⟩ := p.out.two.nt.shape
      obtain ⟨z0, z1, z2, -, -, -⟩ := three_cell p.out.two.nt.self
      rw [List.length_map, List.length_map] at z1
      rw [List.length_map, List.length_map] at hg
      rcases hcond with f1 | ⟨f1, f2⟩
      all_goals
        go_wp2_with fail
        refine Calls.mono c ?_
        rintro e w6 ⟨rfl, L, qs, hL⟩
        have KP : Hid (Kept (fun _ => True) w w6) := p.out.one.kept.trans hL.kept
        have HG : Hid (∀ i (h : i < ps.length), ∃ uo uc, w6.cell? ⟨wr.heap.size, i * 3, none⟩ = some (.int .i64 (ps[i]).1.f) ∧ w6.cell? ⟨wr.heap.size, i * 3 + 1, none⟩ = some (.int .i64 (ps[i]).1.t) ∧ w6.cell? ⟨wr.heap.size, i * 3 + 2, none⟩ = some (.slice uo (ps[i]).1.b.length uc) ∧ Body w6 (fun x => wr.heap.size < x) (ps[i]).1.b (.slice uo (ps[i]).1.b.length uc)) := fun i h => hL.get i h
        have HP6 : Hid (wr.heap.size < w6.heap.size) := (hL.own.lt _ rfl).2
        have HZ : Hid (∀ W, Kept (fun _ => True) w6 W → W.cell? ⟨E, 1, none⟩ = some (.slice bo ps.length bc)) := fun W k => (kept_cell (hL.kept.trans k) p.out.two.nt.lt trivial).trans z1
        have HR : Hid (∀ i (h : i < ps.length), ∃ g, bo = some ⟨g, 0, none⟩ ∧ g < w6.heap.size ∧ w6.cell? ⟨g, i * 3, none⟩ = some (.int .i64 (ps[i]).1.f) ∧ w6.cell? ⟨g, i * 3 + 1, none⟩ = some (.int .i64 (ps[i]).1.t) ∧ w6.cell? ⟨g, i * 3 + 2, none⟩ = some (.string ⟨((ps[i]).1.b).toArray⟩)) := fun i h => by
          obtain ⟨g, e⟩ := hg (by omega)
          have hown := p.out.two.nt.own
          have hgl : g < wr.heap.size := p.out.two.nt.rowlt g (by rw [e]; rfl)
          rw [e] at hown
          obtain ⟨y0, y1, y2⟩ := row_cells3 hown i (by rw [List.length_map, List.length_map]; exact h)
          rw [List.getElem_map, List.getElem_map] at y0 y1 y2
          exact ⟨g, e, Nat.lt_of_lt_of_le hgl hL.kept.size, (kept_cell hL.kept hgl trivial).trans y0, (kept_cell hL.kept hgl trivial).trans y1, (kept_cell hL.kept hgl trivial).trans y2⟩
        clear hL p c z0 z1 z2 hg
        generalize wr.heap.size = P at *
        go_wp2
        go_loopw [15] (fun t wv => ∃ i : Nat, i ≤ ps.length ∧ t = .int .i64 i ∧ Kept (fun _ => True) w6 wv) (fun t _ => ps.length - (intOf t).toNat)
        case atStart => exact ⟨0, Nat.zero_le _, rfl, Kept.refl _ _⟩
        case round =>
          obtain ⟨i, hi, rfl, k6⟩ := hrel
          by_cases hlt2 : i < ps.length
          · obtain ⟨uo, uc, x0, x1, x2, hbody⟩ := HG.out i hlt2
            obtain ⟨g, rfl, hgl, y0, y1, y2⟩ := HR.out i hlt2
            generalize ps[i].1 = q at *
            obtain ⟨qf, qt, qb⟩ := q
            have hX0 : ∀ W, Kept (fun _ => True) w6 W → W.cell? ⟨P, i * 3, none⟩ = some (.int .i64 qf) := fun W k => (kept_cell k HP6.out trivial).trans x0
            have hX1 : ∀ W, Kept (fun _ => True) w6 W → W.cell? ⟨P, i * 3 + 1, none⟩ = some (.int .i64 qt) := fun W k => (kept_cell k HP6.out trivial).trans x1
            have hX2 : ∀ W, Kept (fun _ => True) w6 W → W.cell? ⟨P, i * 3 + 2, none⟩ = some (.slice uo qb.length uc) := fun W k => (kept_cell k HP6.out trivial).trans x2
            have hY0 : ∀ W, Kept (fun _ => True) w6 W → W.cell? ⟨g, i * 3, none⟩ = some (.int .i64 qf) := fun W k => (kept_cell k hgl trivial).trans y0
            have hY1 : ∀ W, Kept (fun _ => True) w6 W → W.cell? ⟨g, i * 3 + 1, none⟩ = some (.int .i64 qt) := fun W k => (kept_cell k hgl trivial).trans y1
            have hY2 : ∀ W, Kept (fun _ => True) w6 W → W.cell? ⟨g, i * 3 + 2, none⟩ = some (.string ⟨qb.toArray⟩) := fun W k => (kept_cell k hgl trivial).trans y2
            have hZ := HZ.out
            have kd1 : Kept (fun _ => True) w6 wr.drew := k6.drew
            have c := same_any (w := wr.drew) (f := qf) (t := qt) (own_kept hbody.own kd1 (fun _ _ => trivial))
            have j1 : (i : Int) < (ps.length : Int) := by omega
            have j0 : (0 : Int) ≤ (i : Int) := by omega
            clear x0 x1 x2 y0 y1 y2 hbody
            go_wp2_with fail
            go_region_held (fun W => Kept (fun _ => True) w6 W) (assumption) (first | (go_at_call 18; refine Calls.mono c ?_; rintro e w8 ⟨rfl, k8⟩; have kd2 : Kept (fun _ => True) w6 w8 := kd1.trans k8))
            all_goals
              go_wp2_with fail
              go_roundw
              case rel => exact ⟨i + 1, by omega, by go_num, kd2⟩
              case measure => simp [intOf]; omega
          · have j1 : ¬ ((i : Int) < (ps.length : Int)) := by omega
            clear HG HR HZ
            go_wp2_with fail
            refine Calls.mono (known_any _) ?_
            rintro e w9 ⟨rfl, k9⟩
            go_wp2
            go_ret
            exact ⟨rfl, (KP.out.trans k6).trans k9⟩

theorem netPlays_any {w : World} {a : Option Addr} {na ca : Nat} (ha : IsAsks w a na) (n : Int) :
    Calls Try.prog 4 #[.int .i64 n, .slice a na ca] w fun e w' => e = .returned (.bool true) ∧ Kept (fun _ => True) w w' := by
  by_cases h : 1 ≤ n ∧ n ≤ 5
  · exact netPlays_ok ha n h.1 h.2
  · exact netPlays_bad n (by omega)

end Go.Proofs.Ytlgcecndfejngaa
