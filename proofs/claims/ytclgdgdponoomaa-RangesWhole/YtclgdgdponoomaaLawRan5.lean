/-
  RangesWhole.
-/
import Derived.Test.YtclgdgdponoomaaMWh
namespace Go.Proofs.Ytclgdgdponoomaa
open Go.RowKit

set_option maxRecDepth 100000 in
set_option maxHeartbeats 8000000 in
theorem rangesWhole_any {w : World} (groups : Int) {am : Option Addr} {cm : Nat} {ms : List Pa} (hm : Pv w am ms) {ao : Option Addr} {co : Nat} {os : List Oz} (hO : Ov w ao os ∧ (∀ o ∈ os, o.cas.length ≤ 140737488355328) ∧ os.length ≤ co) :
    Calls Try.prog 7 #[.int .i64 groups, .slice am ms.length cm, .slice ao os.length co] w fun e w' => e = .returned (.bool true) ∧ Kept (fun _ => True) w w' := by
  have HM : Hid (Pv w am ms) := hm
  have HOs : Hid (Ov w ao os ∧ (∀ o ∈ os, o.cas.length ≤ 140737488355328)) := ⟨hO.1, hO.2.1⟩
  have hco : (os.length : Int) ≤ (co : Int) := by have := hO.2.2; omega
  clear hm hO
  go_enter Try.func7, Try.ntmps7
  go_wp2_with fail
  refine Calls.mono (within_any groups 2 (by decide)) ?_
  rintro e w0 ⟨⟨k, hk, rfl⟩, hw⟩
  obtain rfl : w = w0 := hw.symm
  clear hw
  have cn := new_one (w := w) k hk
  have hr0 := new_rgt hk
  generalize newP (1 + k) = ps0 at *
  go_wp2_with fail
  with_reducible refine Calls.mono cn ?_
  rintro e w1 ⟨a0, p0, rfl, v1, k1⟩
  have HB1 : Hid (Bx (w1.alloc (.cells #[.int .i64 1, .slice a0 ps0.length p0] 24)) w1.heap.size a0 p0 1 ps0) := Bx.made v1
  have HK1 : Hid (Kept (fun _ => True) w (w1.alloc (.cells #[.int .i64 1, .slice a0 ps0.length p0] 24))) := k1.alloc _
  have HXw : Hid (w.heap.size ≤ w1.heap.size) := k1.size
  have HG1 : Hid (rgt 1 ps0 = true) := hr0
  clear cn v1 k1 hr0
  go_wp2_with fail
  generalize w1.alloc (.cells #[.int .i64 1, .slice a0 ps0.length p0] 24) = w2 at *
  generalize w1.heap.size = X at *
  go_loopw [9] (fun t wr => ∃ (i : Nat) (ep' : Int) (ps' : List Pa) (a : Option Addr) (c : Nat), i ≤ 10 ∧ t = .int .i64 i ∧ rgt ep' ps' = true ∧ Bx wr X a c ep' ps' ∧ Kept (fun _ => True) w wr) (fun t _ => 10 - (intOf t).toNat)
  case atStart => exact ⟨0, 1, ps0, a0, p0, by omega, rfl, HG1.out, HB1.out, HK1.out⟩
  case round =>
    obtain ⟨i, ep', ps', a, c, hi8, rfl, hr, hB, hk⟩ := hrel
    clear HB1 HK1 HG1
    have HG : Hid (rgt ep' ps' = true) := hr
    have HB : Hid (Bx _ _ _ _ _ _) := hB
    have HK : Hid (Kept (fun _ => True) w wr) := hk
    by_cases hlt : i < ms.length ∧ i < 10
    · obtain ⟨b, off, rfl, hb, hc⟩ := (HM.out.all HK.out).row (by omega)
      obtain ⟨d0, d1, d2⟩ := hc i hlt.1
      generalize ms[i] = p at *
      obtain ⟨mlo, mhi, mg⟩ := p
      simp only at d0 d1 d2
      have g1 : (i : Int) < (ms.length : Int) := by omega
      have g2 : (i : Int) < 10 := by omega
      have g0 : (0 : Int) ≤ (i : Int) := by omega
      have hgo : (mvP ep' ps' mlo mhi mg).1 = 0 → rgt (mvP ep' ps' mlo mhi mg).2.1 (mvP ep' ps' mlo mhi mg).2.2 = true := mvP_rgt hr
      have cmv : Hid (∀ W, Kept (fun _ => True) wr W → Calls Try.prog 10 #[.agg #[.int .i64 ep', .slice a ps'.length c], .int .i64 mlo, .int .i64 mhi, .int .i64 mg] W fun e w' => ∃ ao' cap', e = .returned (.tuple #[.agg #[.int .i64 (mvP ep' ps' mlo mhi mg).2.1, .slice ao' (mvP ep' ps' mlo mhi mg).2.2.length cap'], .int .i64 (mvP ep' ps' mlo mhi mg).1]) ∧ Pv w' ao' (mvP ep' ps' mlo mhi mg).2.2 ∧ Kept (fun _ => True) W w') := fun W q => move_told (HB.out.view.all q) mlo mhi mg hr
      generalize mvP ep' ps' mlo mhi mg = r at *
      obtain ⟨r1, r2, r3⟩ := r
      simp only at cmv hgo
      have HGO : Hid (r1 = 0 → rgt r2 r3 = true) := hgo
      have D0 : ∀ W, Kept (fun _ => True) wr W → W.cell? ⟨b, off + i * 3, none⟩ = some (.int .i64 mlo) := fun W q => (kept_cell q hb trivial).trans d0
      have D1 : ∀ W, Kept (fun _ => True) wr W → W.cell? ⟨b, off + i * 3 + 1, none⟩ = some (.int .i64 mhi) := fun W q => (kept_cell q hb trivial).trans d1
      have D2 : ∀ W, Kept (fun _ => True) wr W → W.cell? ⟨b, off + i * 3 + 2, none⟩ = some (.int .i64 mg) := fun W q => (kept_cell q hb trivial).trans d2
      have M0 : ∀ W, Kept (fun _ => True) wr W → W.cell? ⟨X, 0, none⟩ = some (.int .i64 ep') := fun W q => (HB.out.all q).cells.1
      have M1 : ∀ W, Kept (fun _ => True) wr W → W.cell? ⟨X, 1, none⟩ = some (.slice a ps'.length c) := fun W q => (HB.out.all q).cells.2
      clear hc d0 d1 d2 hB hk hr hgo
      go_wp2_with fail
      go_region_held3 (fun W => Kept (fun _ => True) wr W) (first | assumption | (repeat (first | assumption | exact Kept.refl _ _ | refine Kept.drew ?_ | refine Kept.alloc ?_ _ | refine Kept.setFresh ?_ (by first | exact Nat.le_refl _ | exact s8.size) _))) (first
        | (go_at_call 10; (with_reducible refine Calls.mono (cmv.out _ (Kept.drew (Kept.refl _ _))) ?_); rintro e w8 ⟨a8, c8, rfl, hv8, k8⟩; have HV8 : Hid (Pv w8 a8 r3) := hv8; have s8 : Kept (fun _ => True) wr w8 := (Kept.refl _ _).drew.trans k8; clear hv8 k8)
        | (go_at_call 10; (with_reducible refine Calls.mono (cmv.out _ (Kept.drew (Kept.alloc (Kept.refl _ _) _))) ?_); rintro e w8 ⟨a8, c8, rfl, hv8, k8⟩; have HV8 : Hid (Pv w8 a8 r3) := hv8; have hz := (k8.block wr.heap.size (lt_of_block (heap_alloc_new wr (.cells #[.int .i64 0, .slice none 0 0] 24))) trivial).trans (heap_alloc_new wr (.cells #[.int .i64 0, .slice none 0 0] 24)); have HZ : Hid _ := hz; have z0 := (mtwo_cell hz).1; have z1 := (mtwo_cell hz).2; have f0 : w8.frozen? ⟨wr.heap.size, 0, none⟩ = false := (by simp [World.frozen?, hz]); have f1 : w8.frozen? ⟨wr.heap.size, 1, none⟩ = false := (by simp [World.frozen?, hz]); have s8 : Kept (fun _ => True) wr w8 := ((Kept.refl _ _).alloc _).drew.trans k8; clear hv8 k8 hz))
      all_goals
        first
          | (have hz : Bx w8 wr.heap.size none 0 0 [] := ⟨HZ.out, Pv.nil _ _⟩
             have hB9 : Bx ((w8.setCell ⟨wr.heap.size, 0, none⟩ (.int .i64 r2)).setCell ⟨wr.heap.size, 1, none⟩ (.slice a8 r3.length c8)) wr.heap.size a8 c8 r2 r3 := hz.put HV8.out (HV8.out.off hz)
             have k9 : Kept (fun _ => True) wr ((w8.setCell ⟨wr.heap.size, 0, none⟩ (.int .i64 r2)).setCell ⟨wr.heap.size, 1, none⟩ (.slice a8 r3.length c8)) := (s8.setFresh (Nat.le_refl _) _).setFresh (Nat.le_refl _) _
             clear hz HZ z0 z1 f0 f1 s8 HV8
             generalize (w8.setCell ⟨wr.heap.size, 0, none⟩ (.int .i64 r2)).setCell ⟨wr.heap.size, 1, none⟩ (.slice a8 r3.length c8) = w9 at *
             generalize wr.heap.size = Y at *)
          | (have hB9 := Bx.made (cap := c8) (ep := r2) HV8.out
             have k9 : Kept (fun _ => True) wr (w8.alloc (.cells #[.int .i64 r2, .slice a8 r3.length c8] 24)) := s8.alloc _
             clear s8 HV8
             generalize w8.alloc (.cells #[.int .i64 r2, .slice a8 r3.length c8] 24) = w9 at *
             generalize w8.heap.size = Y at *)
        have HB9 : Hid (Bx w9 Y a8 c8 r2 r3) := hB9
        have hBm := HB.out.all k9
        have HBm : Hid (Bx w9 X a c ep' ps') := hBm
        have K9 : Hid (Kept (fun _ => True) w w9) := HK.out.trans k9
        obtain ⟨y0, y1⟩ := hB9.cells
        obtain ⟨x0, x1⟩ := hBm.cells
        have f0 := hBm.free 0
        have f1 := hBm.free 1
        clear hBm hB9 k9 D0 D1 D2 M0 M1 HB HK
        by_cases hr1 : r1 = 0
        · subst hr1
          have HGN : Hid (rgt r2 r3 = true) := HGO.out rfl
          have HBn : Hid (Bx _ X a8 c8 r2 r3) := HBm.out.put (cap' := c8) (ep' := r2) HB9.out.view (HB9.out.view.off HBm.out)
          have Kn : Hid (Kept (fun _ => True) w ((w9.setCell ⟨X, 0, none⟩ (.int .i64 r2)).setCell ⟨X, 1, none⟩ (.slice a8 r3.length c8))) := (K9.out.setFresh HXw.out _).setFresh HXw.out _
          clear HBm K9 HB9
          go_wp2_with fail
          go_roundw
          case rel => exact ⟨i + 1, r2, r3, a8, c8, by omega, by go_num, HGN.out, HBn.out, Kn.out⟩
          case measure => simp [intOf]; omega
        · have hr2 : (r1 == 0) = false := by simpa using hr1
          go_wp2_with fail
          go_roundw
          case rel => exact ⟨i + 1, ep', ps', a, c, by omega, by go_num, HG.out, HBm.out, K9.out⟩
          case measure => simp [intOf]; omega
    · have hex : ¬ (i : Int) < (ms.length : Int) ∨ ((i : Int) < (ms.length : Int) ∧ ¬ (i : Int) < 10) := by omega
      obtain ⟨wq, ewq⟩ : ∃ x, x = wr := ⟨_, rfl⟩
      subst ewq
      clear hB hk hr hlt HM hi8
      rcases hex with hex | ⟨he1, he2⟩
      all_goals
        go_wp2_with ((with_reducible refine w_alloc_a ?_); intro w3 hA3 k3)
        have HB3 : Hid (Bx w3 X a c ep' ps') := HB.out.all k3
        have HA3 : Hid (Af w3 wq.heap.size 37 256 (fun _ => .int .i64 0)) := hA3
        have HK3 : Hid (Kept (fun _ => True) w w3) := HK.out.trans k3
        have HL3 : Hid (w.heap.size ≤ wq.heap.size) := HK.out.size
        have HXA : Hid (X < wq.heap.size) := lt_of_block HB.out.self
        have HVA : Hid (∀ b off, a = some ⟨b, off, none⟩ → 0 < ps'.length → b ≠ wq.heap.size) := fun b off e h0 => by
          obtain ⟨b', off', e', hb', -⟩ := HB.out.view.row h0
          rw [e] at e'
          cases e'
          omega
        obtain ⟨-, -, hrE⟩ := rgt_iff.1 HG.out
        have HRE : Hid (rgtE 0 (-1) (ps'.drop 0) = true) := by show _ = _; rw [List.drop_zero]; exact hrE
        have hpl := rgt_most hrE
        clear hA3 k3 HB HK hrE
        generalize wq.heap.size = A at *
        go_loopw [14, 13] (fun t u wr => ∃ (j : Nat) (e l : Int) (f : Nat → Value), j ≤ ps'.length ∧ t = .int .i64 j ∧ u = .int .i64 e ∧ 0 ≤ e ∧ rgtE e l (ps'.drop j) = true ∧ Bx wr X a c ep' ps' ∧ Af wr A 37 256 f ∧ Kept (fun _ => True) w wr) (fun t _ _ => ps'.length - (intOf t).toNat)
        case atStart => exact ⟨0, 0, -1, _, Nat.zero_le _, rfl, rfl, by omega, HRE.out, HB3.out, HA3.out, HK3.out⟩
        case round =>
        obtain ⟨j, e, l, f, hj, rfl, rfl, he0, hre, hB, hA, hk⟩ := hrel
        have HB4 : Hid (Bx wr X a c ep' ps') := hB
        have HA4 : Hid (Af wr A 37 256 f) := hA
        have HK4 : Hid (Kept (fun _ => True) w wr) := hk
        obtain ⟨x0, x1⟩ := hB.cells
        clear HB3 HA3 HK3 HRE hB hA hk
        by_cases hjl : j < ps'.length
        · obtain ⟨b, off, rfl, hb, hc⟩ := HB4.out.view.row (by omega)
          obtain ⟨d0, d1, d2⟩ := hc j hjl
          rw [List.drop_eq_getElem_cons hjl] at hre
          obtain ⟨r0, r1, r2, r3, r4⟩ := rgtE_cons.1 hre
          have hsm := rgtE_end _ _ _ r4
          have HRN : Hid (rgtE ps'[j].hi ps'[j].g (ps'.drop (j + 1)) = true) := r4
          have HD : Hid (∀ W, Bx W X (some ⟨b, off, none⟩) c ep' ps' → W.cell? ⟨b, off + j * 3 + 1, none⟩ = some (.int .i64 ps'[j].hi) ∧ W.cell? ⟨b, off + j * 3 + 2, none⟩ = some (.int .i64 ps'[j].g)) := fun W q => by
            obtain ⟨b', off', e', hb', hc'⟩ := q.view.row (by omega)
            cases e'
            exact (hc' j hjl).2
          clear hre r4 hc
          generalize ps'[j] = p at *
          obtain ⟨plo, phi, pg⟩ := p
          simp only at d0 d1 d2 r0 r1 r2 r3 hsm HRN HD
          subst r0
          have i0 : (0 : Int) ≤ (j : Int) := by omega
          have i1 : (j : Int) < (ps'.length : Int) := by omega
          go_wp2_with fail
          obtain ⟨wo, ewo⟩ : ∃ x, x = wr := ⟨_, rfl⟩
          subst ewo
          go_loopw [15, 13] (fun t u wr => ∃ (z : Int) (f : Nat → Value), plo ≤ z ∧ z ≤ phi ∧ t = .int .i64 z ∧ u = .int .i64 z ∧ Bx wr X (some ⟨b, off, none⟩) c ep' ps' ∧ Af wr A 37 256 f ∧ Kept (fun _ => True) w wr) (fun t _ _ => (phi - intOf t).toNat)
          case atStart => exact ⟨plo, f, by omega, by omega, rfl, rfl, HB4.out, HA4.out, HK4.out⟩
          case round =>
          obtain ⟨z, f', hz0, hz1, rfl, rfl, hB5, hA5, hk5⟩ := hrel
          have HB5 : Hid (Bx wr X (some ⟨b, off, none⟩) c ep' ps') := hB5
          have HA5 : Hid (Af wr A 37 256 f') := hA5
          have HK5 : Hid (Kept (fun _ => True) w wr) := hk5
          obtain ⟨y0, y1⟩ := hB5.cells
          obtain ⟨d3, d4⟩ := HD.out wr hB5
          clear HB4 HA4 HK4 hB5 hk5 x0 x1 d0 d1 d2
          by_cases hzl : z < phi
          · obtain ⟨zN, hzN⟩ : ∃ n : Nat, z = (n : Int) := ⟨z.toNat, by omega⟩
            subst hzN
            have z1 : (zN : Int) < 256 := by omega
            have z2 : (0 : Int) ≤ (zN : Int) := by omega
            have cz := hA5.cell (i := zN) (by omega)
            have fz := hA5.free zN
            have HBn : Hid (Bx (wr.setCell ⟨A, zN, none⟩ (.int .i64 pg)) X (some ⟨b, off, none⟩) c ep' ps') := HB5.out.side (by have := HXA.out; omega) HVA.out _ _
            have HAn : Hid (Af (wr.setCell ⟨A, zN, none⟩ (.int .i64 pg)) A 37 256 (fun i => if i = zN then .int .i64 pg else f' i)) := hA5.set zN _
            have HKn : Hid (Kept (fun _ => True) w (wr.setCell ⟨A, zN, none⟩ (.int .i64 pg))) := HK5.out.setFresh HL3.out _
            clear hA5
            go_wp2_with fail
            go_roundw
            case rel => exact ⟨(zN : Int) + 1, _, by omega, by omega, by go_num, by go_num, HBn.out, HAn.out, HKn.out⟩
            case measure => simp [intOf]; omega
          · obtain rfl : z = phi := by omega
            clear hA5
            go_wp2_with fail
            go_roundw
            case rel => exact ⟨j + 1, z, pg, f', by omega, by go_num, rfl, by omega, HRN.out, HB5.out, HA5.out, HK5.out⟩
            case measure => simp [intOf]; omega
        · have hje : j = ps'.length := by omega
          subst hje
          rw [List.drop_length] at hre
          obtain rfl : e = 256 := by simpa [rgtE] using hre
          have cr := right_any (cap := c) (ep := ep') HB4.out.view (by omega)
          rw [HG.out] at cr
          clear hre HA4
          go_wp2_with fail
          with_reducible refine Calls.mono cr ?_
          rintro e w5 ⟨rfl, k5⟩
          have HB5 : Hid (Bx w5 X a c ep' ps') := HB4.out.all k5
          have HK5 : Hid (Kept (fun _ => True) w w5) := HK4.out.trans k5
          clear k5 cr HB4 HK4 x0 x1
          by_cases h8 : 8 < os.length
          · have h8i : (8 : Int) < (os.length : Int) := by omega
            have h8c : (8 : Int) ≤ (co : Int) := by omega
            have hN : (os.take 8).length = 8 := by rw [List.length_take]; omega
            have HOv : Hid (Ov w ao (os.take 8) ∧ (∀ o ∈ (os.take 8), o.cas.length ≤ 140737488355328)) := ⟨HOs.out.1.take 8, fun o ho => HOs.out.2 o (List.mem_of_mem_take ho)⟩
            have cS := split_any (cap := c) (cm := co) HB5.out.view HG.out (HOv.out.1.all HK5.out) HOv.out.2 (by rw [hN]; omega)
            have HHG : Hid (∀ k, k < 8 → 0 ≤ hof ps' (os.take 8) k ∧ hof ps' (os.take 8) k < 3) := fun k hk => by
              obtain ⟨g, hg, e⟩ := hof_group (ps := ps') (os := (os.take 8)) (k := k) (by rw [hN]; exact hk) (rgt_iff.1 HG.out).2.2
              omega
            have HOW : Hid (∀ (W : World) (g : Int) (k : Nat), k < 8 → Kept (fun _ => True) w5 W → hof ps' (os.take 8) k = g → ∃ (b off : Nat) (s : List UInt8), ao = some ⟨b, off, none⟩ ∧ W.cell? ⟨b, off + k * 4 + 1, none⟩ = some (.string ⟨s.toArray⟩) ∧ b < W.heap.size ∧ ∀ W', Kept (fun _ => True) W W' → Calls Try.prog 11 #[.agg #[.int .i64 ep', .slice a ps'.length c], .string ⟨s.toArray⟩] W' fun e w' => e = .returned (.tuple #[.int .i64 g, .bool true]) ∧ Kept (fun _ => True) W' w') := fun W g k hk q he => own_at (HOv.out.1.all HK5.out) HOv.out.2 HB5.out.view HG.out q (by rw [hN]; exact hk) he
            rw [hN] at cS
            have HCN : Hid (cnt (hof ps' (os.take 8)) 8 (grp (hof ps' (os.take 8)) 8 3).length = 8) := cnt_all _ _ HHG.out
            have HMM : Hid (∀ g k, k ∈ idx (hof ps' (os.take 8)) 8 g → k < 8 ∧ hof ps' (os.take 8) k = (g : Int)) := fun g k h => idx_mem h
            have HCS : Hid (∀ i (hi : i < (grp (hof ps' (os.take 8)) 8 3).length), cnt (hof ps' (os.take 8)) 8 (i + 1) = cnt (hof ps' (os.take 8)) 8 i + (idx (hof ps' (os.take 8)) 8 (grp (hof ps' (os.take 8)) 8 3)[i]).length) := fun i hi => cnt_succ _ _ i hi
            have hgm := grp_most (hof ps' (os.take 8)) 8 3
            have hC0 : cnt (hof ps' (os.take 8)) 8 0 = 0 := cnt_zero _ _
            have HIM : Hid (∀ g, (idx (hof ps' (os.take 8)) 8 g).length ≤ 8) := fun g => idx_most _ _ _
            have hn8 : 8 ≤ 8 := by omega
            obtain ⟨x2, x3⟩ := HB5.out.cells
            clear hN HHG HOv
            generalize hof ps' (os.take 8) = h at *
            go_wp2_with fail
            with_reducible refine Calls.mono cS ?_
            rintro e w6 ⟨gv, pv, vs, rfl, hgv, hpv, hvl, hvs, k6⟩
            obtain ⟨go, gc, rfl⟩ := hgv.shape
            obtain ⟨po, pc, rfl⟩ := hpv.shape
            have HVS : Hid (∀ i (h1 : i < vs.length) (h2 : i < (grp h 8 3).length), Its w6 0 vs[i] (idx h 8 (grp h 8 3)[i])) := hvs
            have HGV : Hid (Its w6 0 (.slice go (grp h 8 3).length gc) (grp h 8 3)) := hgv
            have HPV : Hid (Sls w6 0 (.slice po vs.length pc) vs) := hpv
            have HB6 : Hid (Bx w6 X a c ep' ps') := HB5.out.all k6
            have K56 : Hid (Kept (fun _ => True) w5 w6) := k6
            have hvm : vs.length ≤ 3 := by omega
            rw [← hvl] at HGV
            have HVL : Hid (vs.length = (grp h 8 3).length) := hvl
            rw [← hvl]
            clear hgv hpv hvs k6 cS x2 x3 hvl
            go_wp2_with fail
            go_loopw [19, 18] (fun t u wr => ∃ (i : Nat), i ≤ vs.length ∧ t = .int .i64 i ∧ u = .int .i64 (cnt h 8 i : Nat) ∧ cnt h 8 i ≤ i * 8 ∧ Kept (fun _ => True) w6 wr) (fun t _ _ => vs.length - (intOf t).toNat)
            case atStart => exact ⟨0, Nat.zero_le _, rfl, by rw [hC0]; rfl, by rw [hC0]; omega, Kept.refl _ _⟩
            case round =>
            obtain ⟨i, hi, rfl, rfl, hc24, hk7⟩ := hrel
            have K7 : Hid (Kept (fun _ => True) w6 wr) := hk7
            clear hk7
            by_cases hil : i < vs.length
            · have hig : i < (grp h 8 3).length := by have := HVL.out; omega
              obtain ⟨gp, rfl, c0⟩ := (HPV.out.all K7.out).at i hil
              have hIv := HVS.out i hil hig
              obtain ⟨io, ic, hsh⟩ := hIv.shape
              rw [hsh] at c0 hIv
              have hHG2 : Its w6 0 (.slice go vs.length gc) (grp h 8 3) := HGV.out
              obtain ⟨gg, rfl, c1⟩ := (hHG2.all K7.out).at i hig
              have HCS1 : Hid (cnt h 8 (i + 1) = cnt h 8 i + (idx h 8 (grp h 8 3)[i]).length) := HCS.out i hig
              have HIv : Hid (Its w6 0 (.slice io (idx h 8 (grp h 8 3)[i]).length ic) (idx h 8 (grp h 8 3)[i])) := hIv
              have him := HIM.out (grp h 8 3)[i]
              have HMM1 : Hid (∀ k, k ∈ idx h 8 (grp h 8 3)[i] → k < 8 ∧ h k = (((grp h 8 3)[i] : Nat) : Int)) := fun k hk => HMM.out _ k hk
              have lp := World.block_lt_of_cell? wr _ c0
              have lg := World.block_lt_of_cell? wr _ c1
              have HC0 : Hid (wr.cell? ⟨gp, i, none⟩ = some (.slice io (idx h 8 (grp h 8 3)[i]).length ic) ∧ wr.cell? ⟨gg, i, none⟩ = some (.int .i64 (((grp h 8 3)[i] : Nat) : Int))) := ⟨c0, c1⟩
              have HLP : Hid (gp < wr.heap.size ∧ gg < wr.heap.size) := ⟨lp, lg⟩
              clear hIv hHG2 hsh lp lg
              generalize (grp h 8 3)[i] = gI at *
              generalize hix : idx h 8 gI = ix at *
              clear hix
              have i0 : (0 : Int) ≤ (i : Int) := by omega
              have i1 : (i : Int) < (vs.length : Int) := by omega
              clear c0 c1
              obtain ⟨wo, ewo⟩ : ∃ x, x = wr := ⟨_, rfl⟩
              subst ewo
              go_wp2_with fail
              go_loopw [20, 18] (fun t u wr => ∃ (k : Nat), k ≤ ix.length ∧ t = .int .i64 k ∧ u = .int .i64 ((cnt h 8 i + k : Nat) : Int) ∧ Kept (fun _ => True) wo wr) (fun t _ _ => ix.length - (intOf t).toNat)
              case atStart => exact ⟨0, Nat.zero_le _, rfl, rfl, Kept.refl _ _⟩
              case round =>
              obtain ⟨k, hkl, rfl, rfl, hk8⟩ := hrel
              have K8 : Hid (Kept (fun _ => True) wo wr) := hk8
              have c0 := (kept_cell hk8 HLP.out.1 trivial).trans HC0.out.1
              have c1 := (kept_cell hk8 HLP.out.2 trivial).trans HC0.out.2
              clear hk8
              have j0 : (0 : Int) ≤ (k : Int) := by omega
              by_cases hki : k < ix.length
              · obtain ⟨gi, rfl, c2⟩ := (HIv.out.all (K7.out.trans K8.out)).at k hki
                obtain ⟨hm1, hm2⟩ := HMM1.out ix[k] (List.getElem_mem hki)
                obtain ⟨b, off, s, rfl, c3, hb, hOw⟩ := HOW.out wr (gI : Nat) ix[k] hm1 (K56.out.trans (K7.out.trans K8.out)) hm2
                have HOw : Hid _ := hOw
                have j1 : (k : Int) < (ix.length : Int) := by omega
                have lgi := World.block_lt_of_cell? wr _ c2
                generalize ix[k] = m at *
                have m0 : (0 : Int) ≤ (m : Int) := by omega
                have m1 : (m : Int) < (8 : Int) := by omega
                have HBq := HB6.out.all (K7.out.trans K8.out)
                have E0 : ∀ W, Kept (fun _ => True) wr W → W.cell? ⟨X, 0, none⟩ = some (.int .i64 ep') := fun W q => (HBq.all q).cells.1
                have E1 : ∀ W, Kept (fun _ => True) wr W → W.cell? ⟨X, 1, none⟩ = some (.slice a ps'.length c) := fun W q => (HBq.all q).cells.2
                have E2 : ∀ W, Kept (fun _ => True) wr W → W.cell? ⟨gp, i, none⟩ = some (.slice (some ⟨gi, 0, none⟩) ix.length ic) := fun W q => (kept_cell q (World.block_lt_of_cell? wr _ c0) trivial).trans c0
                have E3 : ∀ W, Kept (fun _ => True) wr W → W.cell? ⟨gi, k, none⟩ = some (.int .i64 (m : Nat)) := fun W q => (kept_cell q lgi trivial).trans c2
                have E4 : ∀ W, Kept (fun _ => True) wr W → W.cell? ⟨b, off + m * 4 + 1, none⟩ = some (.string ⟨s.toArray⟩) := fun W q => (kept_cell q hb trivial).trans c3
                have E5 : ∀ W, Kept (fun _ => True) wr W → W.cell? ⟨gg, i, none⟩ = some (.int .i64 (gI : Nat)) := fun W q => (kept_cell q (World.block_lt_of_cell? wr _ c1) trivial).trans c1
                clear hOw hm1 hm2 c3 HBq
                go_wp2_with fail
                go_region_held3 (fun W => Kept (fun _ => True) wr W) (first | assumption | (repeat (first | assumption | exact Kept.refl _ _ | refine Kept.drew ?_))) ((go_at_call 11; (with_reducible refine Calls.mono (HOw.out _ (by first | assumption | (repeat (first | assumption | exact Kept.refl _ _ | refine Kept.drew ?_)))) ?_); rintro e w8 ⟨rfl, k8⟩; have s8 : Kept (fun _ => True) wr w8 := (Kept.refl _ _).drew.trans k8; clear k8))
                have F5 := E5 w8 s8
                clear E0 E1 E2 E3 E4 E5 c0 c1 c2
                go_wp2_with fail
                go_roundw
                case rel => exact ⟨k + 1, by omega, by go_num, by go_num, K8.out.trans s8⟩
                case measure => simp [intOf]; omega
              · have hke : k = ix.length := by omega
                subst hke
                go_wp2_with fail
                go_roundw
                case rel => exact ⟨i + 1, by omega, by go_num, by rw [HCS1.out], by rw [HCS1.out]; omega, K7.out.trans K8.out⟩
                case measure => simp [intOf]; omega
            · have hie : i = vs.length := by omega
              subst hie
              have hcn : cnt h 8 vs.length = 8 := by rw [HVL.out]; exact HCN.out
              rw [hcn]
              clear hcn hc24
              go_wp2_with (go_at_call 17; refine Calls.mono (known_any _) ?_; rintro e w8 ⟨rfl, k8⟩)
              go_ret
              exact ⟨rfl, HK5.out.trans (K56.out.trans (K7.out.trans k8))⟩
          · have h8i : ¬ (8 : Int) < (os.length : Int) := by omega
            have hN : os.length = os.length := rfl
            have HOv : Hid (Ov w ao os ∧ (∀ o ∈ os, o.cas.length ≤ 140737488355328)) := HOs.out
            have cS := split_any (cap := c) (cm := co) HB5.out.view HG.out (HOv.out.1.all HK5.out) HOv.out.2 (by rw [hN]; omega)
            have HHG : Hid (∀ k, k < os.length → 0 ≤ hof ps' os k ∧ hof ps' os k < 3) := fun k hk => by
              obtain ⟨g, hg, e⟩ := hof_group (ps := ps') (os := os) (k := k) (by rw [hN]; exact hk) (rgt_iff.1 HG.out).2.2
              omega
            have HOW : Hid (∀ (W : World) (g : Int) (k : Nat), k < os.length → Kept (fun _ => True) w5 W → hof ps' os k = g → ∃ (b off : Nat) (s : List UInt8), ao = some ⟨b, off, none⟩ ∧ W.cell? ⟨b, off + k * 4 + 1, none⟩ = some (.string ⟨s.toArray⟩) ∧ b < W.heap.size ∧ ∀ W', Kept (fun _ => True) W W' → Calls Try.prog 11 #[.agg #[.int .i64 ep', .slice a ps'.length c], .string ⟨s.toArray⟩] W' fun e w' => e = .returned (.tuple #[.int .i64 g, .bool true]) ∧ Kept (fun _ => True) W' w') := fun W g k hk q he => own_at (HOv.out.1.all HK5.out) HOv.out.2 HB5.out.view HG.out q (by rw [hN]; exact hk) he
            rw [hN] at cS
            have HCN : Hid (cnt (hof ps' os) os.length (grp (hof ps' os) os.length 3).length = os.length) := cnt_all _ _ HHG.out
            have HMM : Hid (∀ g k, k ∈ idx (hof ps' os) os.length g → k < os.length ∧ hof ps' os k = (g : Int)) := fun g k h => idx_mem h
            have HCS : Hid (∀ i (hi : i < (grp (hof ps' os) os.length 3).length), cnt (hof ps' os) os.length (i + 1) = cnt (hof ps' os) os.length i + (idx (hof ps' os) os.length (grp (hof ps' os) os.length 3)[i]).length) := fun i hi => cnt_succ _ _ i hi
            have hgm := grp_most (hof ps' os) os.length 3
            have hC0 : cnt (hof ps' os) os.length 0 = 0 := cnt_zero _ _
            have HIM : Hid (∀ g, (idx (hof ps' os) os.length g).length ≤ os.length) := fun g => idx_most _ _ _
            have hn8 : os.length ≤ 8 := by omega
            obtain ⟨x2, x3⟩ := HB5.out.cells
            clear hN HHG HOv
            generalize hof ps' os = h at *
            go_wp2_with fail
            with_reducible refine Calls.mono cS ?_
            rintro e w6 ⟨gv, pv, vs, rfl, hgv, hpv, hvl, hvs, k6⟩
            obtain ⟨go, gc, rfl⟩ := hgv.shape
            obtain ⟨po, pc, rfl⟩ := hpv.shape
            have HVS : Hid (∀ i (h1 : i < vs.length) (h2 : i < (grp h os.length 3).length), Its w6 0 vs[i] (idx h os.length (grp h os.length 3)[i])) := hvs
            have HGV : Hid (Its w6 0 (.slice go (grp h os.length 3).length gc) (grp h os.length 3)) := hgv
            have HPV : Hid (Sls w6 0 (.slice po vs.length pc) vs) := hpv
            have HB6 : Hid (Bx w6 X a c ep' ps') := HB5.out.all k6
            have K56 : Hid (Kept (fun _ => True) w5 w6) := k6
            have hvm : vs.length ≤ 3 := by omega
            rw [← hvl] at HGV
            have HVL : Hid (vs.length = (grp h os.length 3).length) := hvl
            rw [← hvl]
            clear hgv hpv hvs k6 cS x2 x3 hvl
            go_wp2_with fail
            go_loopw [19, 18] (fun t u wr => ∃ (i : Nat), i ≤ vs.length ∧ t = .int .i64 i ∧ u = .int .i64 (cnt h os.length i : Nat) ∧ cnt h os.length i ≤ i * 8 ∧ Kept (fun _ => True) w6 wr) (fun t _ _ => vs.length - (intOf t).toNat)
            case atStart => exact ⟨0, Nat.zero_le _, rfl, by rw [hC0]; rfl, by rw [hC0]; omega, Kept.refl _ _⟩
            case round =>
            obtain ⟨i, hi, rfl, rfl, hc24, hk7⟩ := hrel
            have K7 : Hid (Kept (fun _ => True) w6 wr) := hk7
            clear hk7
            by_cases hil : i < vs.length
            · have hig : i < (grp h os.length 3).length := by have := HVL.out; omega
              obtain ⟨gp, rfl, c0⟩ := (HPV.out.all K7.out).at i hil
              have hIv := HVS.out i hil hig
              obtain ⟨io, ic, hsh⟩ := hIv.shape
              rw [hsh] at c0 hIv
              have hHG2 : Its w6 0 (.slice go vs.length gc) (grp h os.length 3) := HGV.out
              obtain ⟨gg, rfl, c1⟩ := (hHG2.all K7.out).at i hig
              have HCS1 : Hid (cnt h os.length (i + 1) = cnt h os.length i + (idx h os.length (grp h os.length 3)[i]).length) := HCS.out i hig
              have HIv : Hid (Its w6 0 (.slice io (idx h os.length (grp h os.length 3)[i]).length ic) (idx h os.length (grp h os.length 3)[i])) := hIv
              have him := HIM.out (grp h os.length 3)[i]
              have HMM1 : Hid (∀ k, k ∈ idx h os.length (grp h os.length 3)[i] → k < os.length ∧ h k = (((grp h os.length 3)[i] : Nat) : Int)) := fun k hk => HMM.out _ k hk
              have lp := World.block_lt_of_cell? wr _ c0
              have lg := World.block_lt_of_cell? wr _ c1
              have HC0 : Hid (wr.cell? ⟨gp, i, none⟩ = some (.slice io (idx h os.length (grp h os.length 3)[i]).length ic) ∧ wr.cell? ⟨gg, i, none⟩ = some (.int .i64 (((grp h os.length 3)[i] : Nat) : Int))) := ⟨c0, c1⟩
              have HLP : Hid (gp < wr.heap.size ∧ gg < wr.heap.size) := ⟨lp, lg⟩
              clear hIv hHG2 hsh lp lg
              generalize (grp h os.length 3)[i] = gI at *
              generalize hix : idx h os.length gI = ix at *
              clear hix
              have i0 : (0 : Int) ≤ (i : Int) := by omega
              have i1 : (i : Int) < (vs.length : Int) := by omega
              clear c0 c1
              obtain ⟨wo, ewo⟩ : ∃ x, x = wr := ⟨_, rfl⟩
              subst ewo
              go_wp2_with fail
              go_loopw [20, 18] (fun t u wr => ∃ (k : Nat), k ≤ ix.length ∧ t = .int .i64 k ∧ u = .int .i64 ((cnt h os.length i + k : Nat) : Int) ∧ Kept (fun _ => True) wo wr) (fun t _ _ => ix.length - (intOf t).toNat)
              case atStart => exact ⟨0, Nat.zero_le _, rfl, rfl, Kept.refl _ _⟩
              case round =>
              obtain ⟨k, hkl, rfl, rfl, hk8⟩ := hrel
              have K8 : Hid (Kept (fun _ => True) wo wr) := hk8
              have c0 := (kept_cell hk8 HLP.out.1 trivial).trans HC0.out.1
              have c1 := (kept_cell hk8 HLP.out.2 trivial).trans HC0.out.2
              clear hk8
              have j0 : (0 : Int) ≤ (k : Int) := by omega
              by_cases hki : k < ix.length
              · obtain ⟨gi, rfl, c2⟩ := (HIv.out.all (K7.out.trans K8.out)).at k hki
                obtain ⟨hm1, hm2⟩ := HMM1.out ix[k] (List.getElem_mem hki)
                obtain ⟨b, off, s, rfl, c3, hb, hOw⟩ := HOW.out wr (gI : Nat) ix[k] hm1 (K56.out.trans (K7.out.trans K8.out)) hm2
                have HOw : Hid _ := hOw
                have j1 : (k : Int) < (ix.length : Int) := by omega
                have lgi := World.block_lt_of_cell? wr _ c2
                generalize ix[k] = m at *
                have m0 : (0 : Int) ≤ (m : Int) := by omega
                have m1 : (m : Int) < (os.length : Int) := by omega
                have HBq := HB6.out.all (K7.out.trans K8.out)
                have E0 : ∀ W, Kept (fun _ => True) wr W → W.cell? ⟨X, 0, none⟩ = some (.int .i64 ep') := fun W q => (HBq.all q).cells.1
                have E1 : ∀ W, Kept (fun _ => True) wr W → W.cell? ⟨X, 1, none⟩ = some (.slice a ps'.length c) := fun W q => (HBq.all q).cells.2
                have E2 : ∀ W, Kept (fun _ => True) wr W → W.cell? ⟨gp, i, none⟩ = some (.slice (some ⟨gi, 0, none⟩) ix.length ic) := fun W q => (kept_cell q (World.block_lt_of_cell? wr _ c0) trivial).trans c0
                have E3 : ∀ W, Kept (fun _ => True) wr W → W.cell? ⟨gi, k, none⟩ = some (.int .i64 (m : Nat)) := fun W q => (kept_cell q lgi trivial).trans c2
                have E4 : ∀ W, Kept (fun _ => True) wr W → W.cell? ⟨b, off + m * 4 + 1, none⟩ = some (.string ⟨s.toArray⟩) := fun W q => (kept_cell q hb trivial).trans c3
                have E5 : ∀ W, Kept (fun _ => True) wr W → W.cell? ⟨gg, i, none⟩ = some (.int .i64 (gI : Nat)) := fun W q => (kept_cell q (World.block_lt_of_cell? wr _ c1) trivial).trans c1
                clear hOw hm1 hm2 c3 HBq
                go_wp2_with fail
                go_region_held3 (fun W => Kept (fun _ => True) wr W) (first | assumption | (repeat (first | assumption | exact Kept.refl _ _ | refine Kept.drew ?_))) ((go_at_call 11; (with_reducible refine Calls.mono (HOw.out _ (by first | assumption | (repeat (first | assumption | exact Kept.refl _ _ | refine Kept.drew ?_)))) ?_); rintro e w8 ⟨rfl, k8⟩; have s8 : Kept (fun _ => True) wr w8 := (Kept.refl _ _).drew.trans k8; clear k8))
                have F5 := E5 w8 s8
                clear E0 E1 E2 E3 E4 E5 c0 c1 c2
                go_wp2_with fail
                go_roundw
                case rel => exact ⟨k + 1, by omega, by go_num, by go_num, K8.out.trans s8⟩
                case measure => simp [intOf]; omega
              · have hke : k = ix.length := by omega
                subst hke
                go_wp2_with fail
                go_roundw
                case rel => exact ⟨i + 1, by omega, by go_num, by rw [HCS1.out], by rw [HCS1.out]; omega, K7.out.trans K8.out⟩
                case measure => simp [intOf]; omega
            · have hie : i = vs.length := by omega
              subst hie
              have hcn : cnt h os.length vs.length = os.length := by rw [HVL.out]; exact HCN.out
              rw [hcn]
              clear hcn hc24
              go_wp2_with (go_at_call 17; refine Calls.mono (known_any _) ?_; rintro e w8 ⟨rfl, k8⟩)
              go_ret
              exact ⟨rfl, HK5.out.trans (K56.out.trans (K7.out.trans k8))⟩

end Go.Proofs.Ytclgdgdponoomaa
