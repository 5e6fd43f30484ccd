/-
  LeasePlays: a granter answers as the document says, for any calls.
-/
import Derived.Test.YtmppejhcjnodhaaGR
import Derived.Test.YtmppejhcjnodhaaGAsks
import Derived.Deep.CutRange
import Derived.Deep.RegionHeld
namespace Go.Proofs.Ytmppejhcjnodhaa
open Go.RowKit

set_option maxHeartbeats 1000000 in
theorem leasePlays_bad {w : World} (z : Int) (hz : ¬ Dr z) {a : Option Addr} {na ca : Nat} :
    Calls Try.prog 5 #[.int .i64 z, .slice a na ca] w fun e w' => e = .returned (.bool true) ∧ Kept (fun _ => True) w w' := by
  have cn := new_bad (w := w) z hz
  unfold Dr at hz
  by_cases g1 : z < 0
  · clear hz
    go_enter Try.func5, Try.ntmps5
    go_wp2_with fail
    refine Calls.mono cn ?_
    rintro e w1 ⟨rfl, rfl⟩
    go_wp2_with fail
    refine Calls.mono (runs_any _) ?_
    rintro e w2 ⟨rfl, k2⟩
    go_wp2_with fail
    go_ret
    exact ⟨rfl, k2⟩
  · have g2 : 500 < z := by omega
    clear hz
    go_enter Try.func5, Try.ntmps5
    go_wp2_with fail
    refine Calls.mono cn ?_
    rintro e w1 ⟨rfl, rfl⟩
    go_wp2_with fail
    refine Calls.mono (runs_any _) ?_
    rintro e w2 ⟨rfl, k2⟩
    go_wp2_with fail
    go_ret
    exact ⟨rfl, k2⟩

set_option maxRecDepth 100000 in
set_option maxHeartbeats 4000000 in
theorem leasePlays_good {w : World} (z : Int) (hz : Dr z) {a : Option Addr} {na ca : Nat} (ha : IsAsks w a na) :
    Calls Try.prog 5 #[.int .i64 z, .slice a na ca] w fun e w' => e = .returned (.bool true) ∧ Kept (fun _ => True) w w' := by
  have HS : Hid (IsAsks w a na) := ha
  clear ha
  have cn := new_ok (w := w) z hz
  obtain ⟨z0, z1⟩ := hz
  have g1 : ¬ (z < 0) := by omega
  have g2 : ¬ ((500 : Int) < z) := by omega
  go_enter Try.func5, Try.ntmps5
  go_wp2_with fail
  refine Calls.mono cn ?_
  rintro e w1 ⟨rfl, h1, k1⟩
  have H1 : Hid (GM w w1 w.heap.size Ga.none) := ⟨h1, k1, Nat.le_refl _⟩
  clear h1 k1 cn
  generalize w.heap.size = B at *
  go_wp2_with fail
  refine Calls.mono rnew_any ?_
  rintro e w2 ⟨rfl, h2, k2⟩
  have H2 : Hid (Two w w2 B w1.heap.size Ga.none) := ⟨H1.out.ahead k2, h2, H1.out.kept.size, .inl rfl⟩
  clear h2 k2 H1
  generalize w1.heap.size = C at *
  go_wp2_with fail
  go_loopw [8] (fun t wr => ∃ (i : Nat) (g : Ga), i ≤ 100 ∧ t = .int .i64 i ∧ Two w wr B C g) (fun t _ => 100 - (intOf t).toNat)
  case atStart => exact ⟨0, _, by omega, rfl, H2.out⟩
  case round =>
    obtain ⟨i, g, hi, rfl, hB⟩ := hrel
    have H : Hid (Two w wr B C g) := hB
    clear hB H2
    by_cases hlt : i < na ∧ i < 100
    · obtain ⟨b, off, y, rfl, hy⟩ := ask_at HS.out hlt.1
      have g3 : (i : Int) < (na : Int) := by omega
      have g4 : (i : Int) < 100 := by omega
      have g0 : (0 : Int) ≤ (i : Int) := by omega
      obtain ⟨y0, y1, y2, y3⟩ := hy wr H.out.gm.kept
      obtain ⟨kind, node, now, n⟩ := y
      simp only at y0 y1 y2 y3
      clear hlt hy
      go_upto_region 11 with fail
      iterate 10 (first | go_values | go_skip | go_guarded | go_step | go_upon | go_back)
      have kX : Kept (fun _ => True) wr (wr.alloc (.cells #[.int .i64 kind, .int .i64 node, .int .i64 now, .int .i64 n] 49)) := (Kept.refl _ _).alloc _
      have hX := quad_cell (heap_alloc_new wr (.cells #[.int .i64 kind, .int .i64 node, .int .i64 now, .int .i64 n] 49))
      have hXA : Hid (wr.heap.size ≠ B ∧ wr.heap.size ≠ C) := ⟨Ne.symm (Nat.ne_of_lt H.out.gm.now.lt), Ne.symm (Nat.ne_of_lt H.out.rg.lt)⟩
      have H8 : Hid (Two w _ B C g) := H.out.ahead kX
      have F8 : Hid (Quad _ wr.heap.size kind node now n) := hX
      clear kX hX H y0 y1 y2 y3
      generalize wr.alloc (.cells #[.int .i64 kind, .int .i64 node, .int .i64 now, .int .i64 n] 49) = w8 at *
      generalize wr.heap.size = X0 at *
      go_cut [6] from 53 to 85 (fun t wx => ∃ (g' : Ga), t = .int .i64 0 ∧ Two w wx B C g' ∧ Quad wx X0 kind node now n)
      case first =>
        by_cases h1 : kind = 1
        · subst h1
          have kd : Kept (fun y => y = X0) w8 w8.drew := (Kept.refl _ _).drew
          have T8 : Hid (Two w w8.drew B C g) := H8.out.ahead (Kept.refl _ _).drew
          have u1 : ∀ W, Kept (fun y => y = X0) w8 W → W.cell? ⟨X0, 1, none⟩ = some (.int .i64 node) := fun W k => cell_kept k F8.out.c1 rfl
          have u2 : ∀ W, Kept (fun y => y = X0) w8 W → W.cell? ⟨X0, 2, none⟩ = some (.int .i64 now) := fun W k => cell_kept k F8.out.c2 rfl
          have u3 : ∀ W, Kept (fun y => y = X0) w8 W → W.cell? ⟨X0, 3, none⟩ = some (.int .i64 n) := fun W k => cell_kept k F8.out.c3 rfl
          by_cases hm : g.may node now n
          · have c9 := ask_yes T8.out.gm.now node now n hm
            have c10 := fun W (s : GStep w8.drew W B (g.on 1 node (now + n))) => rask_yes (T8.out.left s) T8.out.ok node now n hm
            have hok : Hid ((g.on 1 node (now + n)).ok) := Or.inr (.inl rfl)
            generalize g.on 1 node (now + n) = g' at *
            clear hm
            go_wp2_with fail
            go_region_held (fun W => Kept (fun y => y = X0) w8 W) (assumption) (first
              | (go_at_call 13; refine Calls.mono c9 ?_; rintro e w9 ⟨rfl, s9⟩; have k9' : Kept (fun y => y = X0) w8 w9 := kd.trans (s9.kept.mono (fun _ _ q => by subst q; exact hXA.out.1)))
              | (go_at_call 23; refine Calls.mono (c10 _ s9) ?_; rintro e w10 ⟨rfl, s10⟩; have k10' : Kept (fun y => y = X0) w8 w10 := k9'.trans (s10.kept.mono (fun _ _ q => by subst q; exact hXA.out.2)); have H10 : Hid (Two w w10 B C g') := T8.out.both s9 s10 hok.out; clear s10))
            all_goals
              go_wp2_with fail
              go_meet
              exact ⟨_, rfl, H10.out, F8.out.kept k10' rfl⟩
          · have c9 := ask_no T8.out.gm.now node now n hm
            have c10 := rask_no T8.out.rg T8.out.ok node now n hm
            clear hm
            go_wp2_with fail
            go_region_held (fun W => Kept (fun y => y = X0) w8 W) (assumption) (first
              | (go_at_call 13; refine Calls.mono c9 ?_; rintro e w9 ⟨rfl, rfl⟩)
              | (go_at_call 23; refine Calls.mono c10 ?_; rintro e w10 ⟨rfl, rfl⟩))
            all_goals
              go_wp2_with fail
              go_meet
              exact ⟨_, rfl, T8.out, F8.out.kept kd rfl⟩
        · have e1 : (kind == 1) = false := by simpa using h1
          by_cases h2 : kind = 2
          · subst h2
            obtain ⟨d0, d1, d2, d3⟩ := F8.out
            by_cases hm : Tm now ∧ Tm n
            · have c9 := lost_yes H8.out.gm.now now n hm
              have c10 := fun W (s : GStep w8 W B (g.on 2 0 (now + n))) => rlost_yes (H8.out.left s) now n hm
              have hok : Hid ((g.on 2 0 (now + n)).ok) := Or.inr (.inr rfl)
              generalize g.on 2 0 (now + n) = g' at *
              clear hm
              go_wp2_with fail
              refine Calls.mono c9 ?_
              rintro e w9 ⟨rfl, s9⟩
              have d2' := cell_kept s9.kept d2 hXA.out.1
              have d3' := cell_kept s9.kept d3 hXA.out.1
              have F9 : Hid (Quad w9 X0 2 node now n) := F8.out.kept s9.kept hXA.out.1
              clear c9 d0 d1 d2 d3
              go_wp2_with fail
              refine Calls.mono (c10 _ s9) ?_
              rintro e w10 ⟨rfl, s10⟩
              have H10 : Hid (Two w w10 B C g') := H8.out.both s9 s10 hok.out
              have F10 : Hid (Quad w10 X0 2 node now n) := F9.out.kept s10.kept hXA.out.2
              clear c10 s9 s10 d2' d3'
              go_wp2_with fail
              go_meet
              exact ⟨_, rfl, H10.out, F10.out⟩
            · have c9 := lost_no (w := w8) (B := B) now n hm
              have c10 := rlost_no (w := w8) (C := C) now n hm
              clear hm
              go_wp2_with fail
              refine Calls.mono c9 ?_
              rintro e w8 ⟨rfl, rfl⟩
              go_wp2_with fail
              refine Calls.mono c10 ?_
              rintro e w8 ⟨rfl, rfl⟩
              go_wp2_with fail
              go_meet
              exact ⟨_, rfl, H8.out, F8.out⟩
          · have e2 : (kind == 2) = false := by simpa using h2
            go_wp2_with fail
            go_meet
            exact ⟨_, rfl, H8.out, F8.out⟩
      case rest =>
      obtain ⟨g', rfl, h9, q9⟩ := hcut
      have H9 : Hid (Two w wc B C g') := h9
      obtain ⟨d0, d1, d2, d3⟩ := q9
      clear h9 H8 F8 hXA
      have c1 := fun W (e : W.heap = wc.heap) => barred_any (show Gr W B g' by unfold Gr; rw [e]; exact H9.out.gm.now) node now
      have c2 := fun W (e : W.heap = wc.heap) => rbarred_any (show Rg W C g' by unfold Rg; rw [e]; exact H9.out.rg) H9.out.ok node now
      have c3 := fun W (e : W.heap = wc.heap) => until_any (show Gr W B g' by unfold Gr; rw [e]; exact H9.out.gm.now)
      have d4 : wc.cell? ⟨C, 3, none⟩ = some (.int .i64 g'.til) := by
        obtain ⟨f, _, h⟩ := H9.out.rg
        exact (cells_four h).2.2.2.1
      generalize decide (g'.bars node now) = q at *
      have hq : (q == q) = true := by simp
      go_wp2_with fail
      go_quiet (first | (go_at_call 14; exact Calls.quiet_of_same (c1 _ rfl)) | (go_at_call 25; exact Calls.quiet_of_same (c2 _ rfl)) | (go_at_call 12; exact Calls.quiet_of_same (c3 _ rfl)))
      go_wp2_with fail
      go_roundw
      case rel => exact ⟨i + 1, g', by omega, by go_num, H9.out.ahead ((Kept.refl _ _).drewN _)⟩
      case measure => simp [intOf]; omega
    · by_cases hin : i < na
      · obtain rfl : i = 100 := by omega
        have g3 : (100 : Int) < (na : Int) := by omega
        clear hlt
        go_wp2_with fail
        refine Calls.mono (runs_any _) ?_
        rintro e w3 ⟨rfl, k3⟩
        go_wp2_with fail
        go_ret
        exact ⟨rfl, H.out.gm.kept.trans k3⟩
      · have g3 : ¬ ((i : Int) < (na : Int)) := by omega
        clear hlt
        go_wp2_with fail
        refine Calls.mono (runs_any _) ?_
        rintro e w3 ⟨rfl, k3⟩
        go_wp2_with fail
        go_ret
        exact ⟨rfl, H.out.gm.kept.trans k3⟩

theorem leasePlays_any {w : World} (z : Int) {a : Option Addr} {na ca : Nat} (ha : IsAsks w a na) :
    Calls Try.prog 5 #[.int .i64 z, .slice a na ca] w fun e w' => e = .returned (.bool true) ∧ Kept (fun _ => True) w w' := by
  by_cases h : Dr z
  · exact leasePlays_good z h ha
  · exact leasePlays_bad z h

end Go.Proofs.Ytmppejhcjnodhaa
