/-
  HistClients: it answers true.
-/
import Derived.Test.YtllopkebamlgeaaHiKn
import Derived.Test.YtllopkebamlgeaaMGz
namespace Go.Proofs.Ytllopkebamlgeaa
open Go.RowKit Go.Maps Go.Sort

theorem size_evs (w0 : World) : (sizeOf (Try.prog.elem 32)).run Try.prog w0 = .ok 7 w0 := by kernel_rfl
theorem cut_evs (ao : Option Addr) (n cap k : Nat) (hk : k ≤ cap) (hn : ao = none → cap = 0) (w0 : World) :
    (Instr.slice 32 (.slice ao n cap) none (some (.int .i64 (k : Int))) none).run Try.prog w0 = .ok (.slice ao k cap) w0 := by
  rw [run_slice_h (P := Try.prog) w0 32 ao n cap Try.underlying32 .i64 k (by omega) (by omega), size_evs]
  cases ao with
  | none => have := hn rfl; simp [Result.andThen, sliced]
  | some ad => simp [Result.andThen, sliced, Addr.add]
theorem vw_take {α : Type} {S : Shp α} {w : World} {ao : Option Addr} {xs : List α} (h : Vw S w ao xs) (n : Nat) : Vw S w ao (xs.take n) := by
  refine ⟨fun h0 => ?_⟩
  rw [List.length_take] at h0
  obtain ⟨b, off, rfl, hb, hc⟩ := h.row (by omega)
  refine ⟨b, off, rfl, hb, fun i hi => ?_⟩
  rw [List.length_take] at hi
  rw [List.getElem_take]
  exact hc i (by omega)

theorem cp_take {α : Type} (p : α → Bool) (l : List α) (j : Nat) (h : j < l.length) : (l.take (j + 1)).countP p = (l.take j).countP p + if p l[j] = true then 1 else 0 := by
  rw [List.take_succ_eq_append_getElem h, List.countP_append]
  simp [List.countP_cons]
theorem ow_range {w : World} {b g n c : Nat} {xs : List Oc} (h : Ow opS 35 w b (.slice (some ⟨g, 0, none⟩) n c) xs) (i : Nat) (hi : i < xs.length) : w.rangeAt g (i * 8) (occ xs[i]) := by
  obtain ⟨g', off, e, hg, hr⟩ := h.view.row (by omega)
  injection e with e
  injection e with e1 e2 _
  subst e1 e2
  have := hr i hi
  rw [Nat.zero_add] at this
  exact this

set_option maxRecDepth 100000 in
set_option maxHeartbeats 4000000 in
theorem histClients_any {w : World} {al : Option Addr} {cap : Nat} {es : List Ev} (h : Vw evS w al es) (hok : ∀ e ∈ es, EvOk w e) (hc : es.length ≤ cap) (hl : es.length ≤ 281474976710656) (hn : al = none → cap = 0) :
    Calls Try.prog 5 #[.slice al es.length cap] w fun e w' => e = .returned (.bool true) ∧ Kept (fun _ => True) w w' := by
  obtain ⟨ES, hES⟩ : ∃ ES, ES = es.take 60 := ⟨_, rfl⟩
  have HV : Hid (Vw evS w al ES) := by rw [hES]; exact vw_take h 60
  have HOK : Hid (∀ e ∈ ES, EvOk w e) := fun e he => hok e (by rw [hES] at he; exact List.mem_of_mem_take he)
  have HL : Hid (ES.length = min 60 es.length) := by rw [hES]; exact List.length_take
  have HC : Hid (es.length ≤ cap ∧ (al = none → cap = 0)) := ⟨hc, hn⟩
  clear h hok hc hES hn
  go_enter Try.func5, Try.ntmps5
  go_upto_if 14 with fail
  go_cut [0, 14] from 15 to 16 (fun v _ wx => v = .slice al ES.length cap ∧ wx = w)
  case first =>
    by_cases h60 : es.length > 60
    · have hd : decide ((60 : Int) < es.length) = true := decide_eq_true (by omega)
      rw [hd]
      have hcut := fun W : World => cut_evs al es.length cap 60 (by have := HC.out.1; omega) HC.out.2 W
      have hcc : ¬ ((cap : Int) < 60) := by have := HC.out.1; omega
      have e60 : Hid (ES.length = 60) := by have := HL.out; show _ = _; omega
      clear h60 hl hd
      go_wp2_with fail
      go_meet
      exact ⟨by rw [e60.out], rfl⟩
    · have hd : decide ((60 : Int) < es.length) = false := decide_eq_false (by omega)
      rw [hd]
      have e60 : Hid (ES.length = es.length) := by have := HL.out; show _ = _; omega
      clear h60 hl hd
      go_wp2_with fail
      go_meet
      exact ⟨by rw [e60.out], rfl⟩
  case rest =>
    obtain ⟨rfl, hwx⟩ := hcut
    subst hwx
    have h60 : ES.length ≤ 60 := by have := HL.out; omega
    have H60 : Hid (ES.length ≤ 60) := h60
    have CO := ops_any (cap := cap) HV.out HOK.out (by omega)
    clear h60 hl
    cases hrun : runP noP 0 (ES.map Ev.pe) with
    | stops j =>
      have CO1 := CO.mono fun e w' h => h.stop hrun
      clear CO hrun
      go_wp2_with (first
        | (go_at_call 7; (with_reducible refine Calls.mono CO1 ?_); rintro e w1 ⟨rfl, k1⟩)
        | (go_at_call 10; (with_reducible refine Calls.mono (known_any _) ?_); rintro e w2 ⟨rfl, k2⟩))
      go_ret
      exact ⟨rfl, k1.trans k2⟩
    | calls l =>
      have CO1 := CO.mono fun e w' h => h.calls hrun
      have HT : Hid (Told l (ES.map Ev.pe)) := told_any hrun
      clear CO hrun
      go_upto_region 6 with (go_at_call 7; (with_reducible refine Calls.mono CO1 ?_); rintro e w1 ⟨⟨a, c, xs, hxl, rfl, ho⟩, k1⟩; have K1 : Hid (Kept (fun _ => True) wc w1) := k1; have HO : Hid (Ow opS 35 w1 wc.heap.size (.slice a xs.length c) xs) := ho; clear CO1 k1 ho)
      subst hxl
      go_wp2_with fail
      have HX : Hid (xs.length ≤ 60) := by
        have h1 := HT.out.called
        have h2 := List.countP_le_length (p := fun e : Pe => e.k == 1) (l := ES.map Ev.pe)
        rw [List.length_map] at h1 h2
        have h3 := H60.out
        show _ ≤ _
        omega
      go_loopw [6, 7, 9] (fun u v t wr => ∃ j : Nat, j ≤ ES.length ∧ t = .int .i64 j ∧ u = .int .i64 (((ES.map Ev.pe).take j).countP (fun e => e.k == 1) : Nat) ∧ v = .int .i64 (((ES.map Ev.pe).take j).countP (fun e => e.k == 2) : Nat) ∧ Kept (fun _ => True) w1 wr) (fun _ _ t _ => ES.length - (intOf t).toNat)
      case atStart => exact ⟨0, Nat.zero_le _, rfl, rfl, rfl, Kept.refl _ _⟩
      case round =>
        obtain ⟨j, hj, rfl, rfl, rfl, hk⟩ := hrel
        obtain ⟨wB, hwB⟩ : ∃ x, x = wr := ⟨_, rfl⟩
        rw [← hwB] at hk ⊢
        clear hwB
        have HK : Hid (Kept (fun _ => True) w1 wB) := hk
        by_cases hlt : j < ES.length
        · obtain ⟨gb, go, rfl, hgb, hgr⟩ := (HV.out.all (K1.out.trans hk)).row (by omega)
          have m0 : wB.cell? ⟨gb, go + j * 7, none⟩ = some (.int .i64 ES[j].k) := hgr j hlt 0 _ rfl
          have hlm : j < (ES.map Ev.pe).length := by rw [List.length_map]; exact hlt
          have hpk : (ES.map Ev.pe)[j].k = ES[j].k := by rw [List.getElem_map]; rfl
          have HA : Hid (((ES.map Ev.pe).take (j + 1)).countP (fun e => e.k == 1) = ((ES.map Ev.pe).take j).countP (fun e => e.k == 1) + if (ES[j].k == 1) = true then 1 else 0) := by show _ = _; rw [cp_take (fun e => e.k == 1) (ES.map Ev.pe) j hlm, hpk]
          have HB : Hid (((ES.map Ev.pe).take (j + 1)).countP (fun e => e.k == 2) = ((ES.map Ev.pe).take j).countP (fun e => e.k == 2) + if (ES[j].k == 2) = true then 1 else 0) := by show _ = _; rw [cp_take (fun e => e.k == 2) (ES.map Ev.pe) j hlm, hpk]
          have hb1 : ((ES.map Ev.pe).take j).countP (fun e => e.k == 1) ≤ 60 := by have h1 := List.countP_le_length (p := fun e : Pe => e.k == 1) (l := (ES.map Ev.pe).take j); have h2 := H60.out; rw [List.length_take, List.length_map] at h1; omega
          have hb2 : ((ES.map Ev.pe).take j).countP (fun e => e.k == 2) ≤ 60 := by have h1 := List.countP_le_length (p := fun e : Pe => e.k == 2) (l := (ES.map Ev.pe).take j); have h2 := H60.out; rw [List.length_take, List.length_map] at h1; omega
          have HJ : Hid (j < ES.length) := hlt
          have i0 : (0 : Int) ≤ (j : Int) := by omega
          have i1 : (j : Int) < (ES.length : Int) := by omega
          have j1 : (j : Int) + 1 ≤ 9223372036854775807 := by have := H60.out; omega
          clear hgr hk hj hlm hpk
          generalize ES[j].k = k at *
          clear hlt
          generalize ((ES.map Ev.pe).take j).countP (fun e => e.k == 1) = A at *
          generalize ((ES.map Ev.pe).take j).countP (fun e => e.k == 2) = B at *
          have a0 : (0 : Int) ≤ (A : Int) := by omega
          have a1 : (A : Int) + 1 ≤ 9223372036854775807 := by omega
          have b0 : (0 : Int) ≤ (B : Int) := by omega
          have b1 : (B : Int) + 1 ≤ 9223372036854775807 := by omega
          clear hb1 hb2
          by_cases h1 : k = 1
          · subst h1
            go_wp2_with fail
            go_roundw
            case rel => exact ⟨j + 1, HJ.out, by go_num, by rw [HA.out]; go_num, by rw [HB.out]; rfl, HK.out⟩
            case measure => have := HJ.out; simp [intOf]; omega
          · have e1 : (k == 1) = false := beq_eq_false_iff_ne.2 h1
            rw [e1] at HA
            by_cases h2 : k = 2
            · subst h2
              clear e1 h1
              go_wp2_with fail
              go_roundw
              case rel => exact ⟨j + 1, HJ.out, by go_num, by rw [HA.out]; rfl, by rw [HB.out]; go_num, HK.out⟩
              case measure => have := HJ.out; simp [intOf]; omega
            · have e2 : (k == 2) = false := beq_eq_false_iff_ne.2 h2
              rw [e2] at HB
              clear h1 h2
              go_wp2_with fail
              go_roundw
              case rel => exact ⟨j + 1, HJ.out, by go_num, by rw [HA.out]; rfl, by rw [HB.out]; rfl, HK.out⟩
              case measure => have := HJ.out; simp [intOf]; omega
        · obtain rfl : j = ES.length := by omega
          have eA : ((ES.map Ev.pe).take ES.length).countP (fun e => e.k == 1) = xs.length := by
            rw [List.take_of_length_le (by simp)]
            have := HT.out.called
            rw [List.length_map] at this
            exact this.symm
          have eB : ((ES.map Ev.pe).take ES.length).countP (fun e => e.k == 2) = (xs.map Oc.pc).countP (fun x => decide (0 ≤ x.tz)) := by
            rw [List.take_of_length_le (by simp)]
            exact HT.out.ended.symm
          rw [eA, eB]
          clear hlt hj hk eA eB
          have HZ : Hid ((xs.map Oc.pc).countP (fun x => decide (0 ≤ x.tz)) ≤ 60) := by
            have h1 := List.countP_le_length (p := fun x : Pc => decide (0 ≤ x.tz)) (l := xs.map Oc.pc)
            rw [List.length_map] at h1
            have h2 := HX.out
            show _ ≤ _
            omega
          obtain ⟨Z, hZ⟩ : ∃ Z, Z = (xs.map Oc.pc).countP (fun x => decide (0 ≤ x.tz)) := ⟨_, rfl⟩
          rw [← hZ] at HZ ⊢
          have HZe : Hid (Z = (xs.map Oc.pc).countP (fun x => decide (0 ≤ x.tz))) := hZ
          clear hZ
          go_wp2_with fail
          go_loopw [8, 10] (fun v t wr => ∃ i : Nat, i ≤ xs.length ∧ t = .int .i64 i ∧ v = .int .i64 (((xs.map Oc.pc).take i).countP (fun x => decide (0 ≤ x.tz)) : Nat) ∧ Kept (fun _ => True) w1 wr) (fun _ t _ => xs.length - (intOf t).toNat)
          case atStart => exact ⟨0, Nat.zero_le _, rfl, rfl, HK.out⟩
          case round =>
            obtain ⟨i, hi, rfl, rfl, hk⟩ := hrel
            obtain ⟨wI, hwI⟩ : ∃ x, x = wr := ⟨_, rfl⟩
            rw [← hwI] at hk ⊢
            clear hwI
            have HKI : Hid (Kept (fun _ => True) w1 wI) := hk
            by_cases hlt : i < xs.length
            · obtain ⟨ao', cap', hv, _, hg, _⟩ := HO.out.shape
              obtain ⟨g, rfl⟩ := hg (by omega)
              injection hv with e1 e2 e3
              subst e1 e3
              have HOI : Hid (Ow opS 35 wI wc.heap.size (.slice (some ⟨g, 0, none⟩) xs.length c) xs) := HO.out.all hk
              have m7 : wI.cell? ⟨g, i * 8 + 7, none⟩ = some (.int .i64 xs[i].tz) := ow_range HOI.out i hlt 7 _ rfl
              have hlm : i < (xs.map Oc.pc).length := by rw [List.length_map]; exact hlt
              have HA : Hid (((xs.map Oc.pc).take (i + 1)).countP (fun x => decide (0 ≤ x.tz)) = ((xs.map Oc.pc).take i).countP (fun x => decide (0 ≤ x.tz)) + if decide (0 ≤ (xs.map Oc.pc)[i].tz) = true then 1 else 0) := by show _ = _; exact cp_take (fun x : Pc => decide (0 ≤ x.tz)) (xs.map Oc.pc) i hlm
              have hpz : (xs.map Oc.pc)[i].tz = xs[i].tz := by rw [List.getElem_map]; rfl
              rw [hpz] at HA
              have hb1 : ((xs.map Oc.pc).take i).countP (fun x => decide (0 ≤ x.tz)) ≤ 60 := by have h1 := List.countP_le_length (p := fun x : Pc => decide (0 ≤ x.tz)) (l := (xs.map Oc.pc).take i); have h2 := HX.out; rw [List.length_take, List.length_map] at h1; omega
              have HI : Hid (i < xs.length) := hlt
              have i0 : (0 : Int) ≤ (i : Int) := by omega
              have i1 : (i : Int) < (xs.length : Int) := by omega
              have j1 : (i : Int) + 1 ≤ 9223372036854775807 := by have := HX.out; omega
              clear hg hk hi hlm hpz
              generalize ((xs.map Oc.pc).take i).countP (fun x => decide (0 ≤ x.tz)) = A at *
              have a0 : (0 : Int) ≤ (A : Int) := by omega
              have a1 : (A : Int) + 1 ≤ 9223372036854775807 := by omega
              generalize xs[i].tz = tzi at m7 HA
              clear hb1 hlt
              go_upto_if 61 with fail
              go_cut [8, 61] from 62 to 63 (fun v _ wx => v = .int .i64 (((xs.map Oc.pc).take (i + 1)).countP (fun x => decide (0 ≤ x.tz)) : Nat) ∧ wx = wI)
              case first =>
                by_cases hz : 0 ≤ tzi
                · have ez : decide (0 ≤ tzi) = true := decide_eq_true hz
                  rw [ez] at HA
                  try rw [ez]
                  clear hz
                  go_wp2_with fail
                  go_meet
                  exact ⟨by rw [HA.out]; go_num, rfl⟩
                · have ez : decide (0 ≤ tzi) = false := decide_eq_false hz
                  rw [ez] at HA
                  try rw [ez]
                  clear hz
                  go_wp2_with fail
                  go_meet
                  exact ⟨by rw [HA.out]; rfl, rfl⟩
              case rest =>
                obtain ⟨rfl, hwx⟩ := hcut
                subst hwx
                clear m7 HA a0 a1
                go_wp2_with fail
                go_loopw [11] (fun t wq => ∃ k : Nat, k ≤ i ∧ t = .int .i64 k ∧ Kept (fun _ => True) w1 wq) (fun t _ => i - (intOf t).toNat)
                case atStart => exact ⟨0, Nat.zero_le _, rfl, HKI.out⟩
                case round =>
                  obtain ⟨k, hk, rfl, hkr⟩ := hrel
                  obtain ⟨wq, hwq⟩ : ∃ x, x = wr := ⟨_, rfl⟩
                  rw [← hwq] at hkr ⊢
                  clear hwq
                  have HKq : Hid (Kept (fun _ => True) w1 wq) := hkr
                  by_cases hlt : k < i
                  · have HKI2 : Hid (k < i) := hlt
                    have hkx : k < xs.length := by have := HI.out; omega
                    have k0 : (0 : Int) ≤ (k : Int) := by omega
                    have k1 : (k : Int) < (i : Int) := by omega
                    have k2 : (k : Int) < (xs.length : Int) := by have := HI.out; omega
                    have kk1 : (k : Int) + 1 ≤ 9223372036854775807 := by have := HX.out; omega
                    have hix : i < xs.length := HI.out
                    have RI : Hid (∀ W, Kept (fun _ => True) wq W → W.rangeAt g (i * 8) (occ xs[i])) := fun W h => ow_range (HO.out.all (hkr.trans h)) i hix
                    have RK : Hid (∀ W, Kept (fun _ => True) wq W → W.rangeAt g (k * 8) (occ xs[k])) := fun W h => ow_range (HO.out.all (hkr.trans h)) k hkx
                    have HRI : Hid (xs[k].fr < xs[i].fr) := by
                      have := HT.out.rise k i (by rw [List.length_map]; exact hix) hlt
                      rw [List.getElem_map, List.getElem_map] at this
                      exact this
                    have HON : Hid (xs[k].cl = xs[i].cl → befP xs[k].pc xs[i].pc = true) := fun hcl => by
                      have := HT.out.one k i (by rw [List.length_map]; exact hix) hlt (by rw [List.getElem_map, List.getElem_map]; exact hcl)
                      rw [List.getElem_map, List.getElem_map] at this
                      have h2 := HRI.out
                      unfold befP
                      have e1 : decide (0 ≤ xs[k].pc.tz) = true := decide_eq_true this.1
                      have e2 : decide (xs[k].pc.tz < xs[i].pc.fr) = true := decide_eq_true this.2
                      have e3 : decide (xs[k].pc.fr = xs[i].pc.fr) = false := decide_eq_false (by show ¬ (xs[k].fr = xs[i].fr); omega)
                      rw [e1, e2, e3]
                      rfl
                    have BF0 := fun W => before_any W xs[k] xs[i]
                    generalize xs[i] = y at *
                    generalize xs[k] = x at *
                    obtain ⟨cl, oa, on, oc, out, ta, tn, tc, ix, why, fr, tz⟩ := x
                    obtain ⟨cl', oa', on', oc', out', ta', tn', tc', ix', why', fr', tz'⟩ := y
                    simp only at HRI HON
                    clear hk hlt hkr hkx hix
                    have c0 : ∀ W, Kept (fun _ => True) wq W → W.cell? ⟨g, i * 8, none⟩ = some (.int .i64 cl') := fun W h => RI.out W h 0 _ rfl
                    have c6 : ∀ W, Kept (fun _ => True) wq W → W.cell? ⟨g, i * 8 + 6, none⟩ = some (.int .i64 fr') := fun W h => RI.out W h 6 _ rfl
                    have d0 : ∀ W, Kept (fun _ => True) wq W → W.cell? ⟨g, k * 8, none⟩ = some (.int .i64 cl) := fun W h => RK.out W h 0 _ rfl
                    have d6 : ∀ W, Kept (fun _ => True) wq W → W.cell? ⟨g, k * 8 + 6, none⟩ = some (.int .i64 fr) := fun W h => RK.out W h 6 _ rfl
                    have g1 : decide (fr' ≤ fr) = false := decide_eq_false (by have := HRI.out; omega)
                    by_cases hcl : cl = cl'
                    · subst hcl
                      have BF : ∀ W, Calls Try.prog 8 #[.agg (occ ⟨cl, oa, on, oc, out, ta, tn, tc, ix, why, fr, tz⟩).toArray, .agg (occ ⟨cl, oa', on', oc', out', ta', tn', tc', ix', why', fr', tz'⟩).toArray] W fun e w' => e = .returned (.bool true) ∧ Kept (fun _ => True) W w' := fun W => by
                        have := BF0 W
                        rw [HON.out rfl] at this
                        exact this
                      unfold occ at BF
                      simp only at BF
                      have c1 : ∀ W, Kept (fun _ => True) wq W → W.cell? ⟨g, i * 8 + 1, none⟩ = some (.slice oa' on' oc') := fun W h => RI.out W h 1 _ rfl
                      have c2 : ∀ W, Kept (fun _ => True) wq W → W.cell? ⟨g, i * 8 + 2, none⟩ = some (.int .i64 out') := fun W h => RI.out W h 2 _ rfl
                      have c3 : ∀ W, Kept (fun _ => True) wq W → W.cell? ⟨g, i * 8 + 3, none⟩ = some (.slice ta' tn' tc') := fun W h => RI.out W h 3 _ rfl
                      have c4 : ∀ W, Kept (fun _ => True) wq W → W.cell? ⟨g, i * 8 + 4, none⟩ = some (.int .i64 ix') := fun W h => RI.out W h 4 _ rfl
                      have c5 : ∀ W, Kept (fun _ => True) wq W → W.cell? ⟨g, i * 8 + 5, none⟩ = some (.int .i64 why') := fun W h => RI.out W h 5 _ rfl
                      have c7 : ∀ W, Kept (fun _ => True) wq W → W.cell? ⟨g, i * 8 + 7, none⟩ = some (.int .i64 tz') := fun W h => RI.out W h 7 _ rfl
                      have d1 : ∀ W, Kept (fun _ => True) wq W → W.cell? ⟨g, k * 8 + 1, none⟩ = some (.slice oa on oc) := fun W h => RK.out W h 1 _ rfl
                      have d2 : ∀ W, Kept (fun _ => True) wq W → W.cell? ⟨g, k * 8 + 2, none⟩ = some (.int .i64 out) := fun W h => RK.out W h 2 _ rfl
                      have d3 : ∀ W, Kept (fun _ => True) wq W → W.cell? ⟨g, k * 8 + 3, none⟩ = some (.slice ta tn tc) := fun W h => RK.out W h 3 _ rfl
                      have d4 : ∀ W, Kept (fun _ => True) wq W → W.cell? ⟨g, k * 8 + 4, none⟩ = some (.int .i64 ix) := fun W h => RK.out W h 4 _ rfl
                      have d5 : ∀ W, Kept (fun _ => True) wq W → W.cell? ⟨g, k * 8 + 5, none⟩ = some (.int .i64 why) := fun W h => RK.out W h 5 _ rfl
                      have d7 : ∀ W, Kept (fun _ => True) wq W → W.cell? ⟨g, k * 8 + 7, none⟩ = some (.int .i64 tz) := fun W h => RK.out W h 7 _ rfl
                      clear BF0 HON
                      go_upto_region 23 with fail
                      refine Gz.begin (fun W => Kept (fun _ => True) wq W) (fun _ => false) (by kernel_rfl) ?_
                      refine Gz.take (i := 0) (oi := { dst := some 69, op := Op.move (Operand.tmp 3), type := 22, pos := _, after := _, guard := none }) (v := ?_) rfl (by kernel_rfl) (by kernel_rfl) (by kernel_rfl) (by kernel_rfl) (fun _ _ _ h => h) (Or.inl ⟨by rfl, ?hy0⟩) (Kept.refl _ _).drew ?_
                      case hy0 => (intro W hSw; (try dsimp only at hSw); go_simp; try with_reducible rfl)
                      try simp only [Act.put, List.setIfInBounds_toArray, List.set_cons_zero, List.set_cons_succ]
                      refine Gz.take (i := 1) (oi := { dst := some 70, op := Op.move (Operand.tmp 10), type := 3, pos := _, after := _, guard := none }) (v := ?_) rfl (by kernel_rfl) (by kernel_rfl) (by kernel_rfl) (by kernel_rfl) (fun _ _ _ h => h) (Or.inl ⟨by rfl, ?hy1⟩) (Kept.refl _ _).drew ?_
                      case hy1 => (intro W hSw; (try dsimp only at hSw); go_simp; try with_reducible rfl)
                      try simp only [Act.put, List.setIfInBounds_toArray, List.set_cons_zero, List.set_cons_succ]
                      refine Gz.take (i := 2) (oi := { dst := some 71, op := Op.indexAddr 22 (Operand.tmp 69) (Operand.tmp 70), type := 0, pos := _, after := _, guard := none }) (v := ?_) rfl (by kernel_rfl) (by kernel_rfl) (by kernel_rfl) (by kernel_rfl) (fun _ _ _ h => h) (Or.inl ⟨by rfl, ?hy2⟩) (Kept.refl _ _).drew ?_
                      case hy2 => (intro W hSw; (try dsimp only at hSw); go_simp; try with_reducible rfl)
                      try simp only [Act.put, List.setIfInBounds_toArray, List.set_cons_zero, List.set_cons_succ]
                      refine Gz.take (i := 3) (oi := { dst := some 72, op := Op.fieldAddr 35 (Operand.tmp 71) 0, type := 0, pos := _, after := _, guard := none }) (v := ?_) rfl (by kernel_rfl) (by kernel_rfl) (by kernel_rfl) (by kernel_rfl) (fun _ _ _ h => h) (Or.inl ⟨by rfl, ?hy3⟩) (Kept.refl _ _).drew ?_
                      case hy3 => (intro W hSw; (try dsimp only at hSw); go_simp; try with_reducible rfl)
                      try simp only [Act.put, List.setIfInBounds_toArray, List.set_cons_zero, List.set_cons_succ]
                      refine Gz.take (i := 4) (oi := { dst := some 73, op := Op.load 3 (Operand.tmp 72), type := 3, pos := _, after := _, guard := none }) (v := ?_) rfl (by kernel_rfl) (by kernel_rfl) (by kernel_rfl) (by kernel_rfl) (fun _ _ _ h => h) (Or.inl ⟨by rfl, ?hy4⟩) (Kept.refl _ _).drew ?_
                      case hy4 => (intro W hSw; (try dsimp only at hSw); go_simp; try with_reducible rfl)
                      try simp only [Act.put, List.setIfInBounds_toArray, List.set_cons_zero, List.set_cons_succ]
                      refine Gz.take (i := 5) (oi := { dst := some 74, op := Op.move (Operand.tmp 3), type := 22, pos := _, after := _, guard := none }) (v := ?_) rfl (by kernel_rfl) (by kernel_rfl) (by kernel_rfl) (by kernel_rfl) (fun _ _ _ h => h) (Or.inl ⟨by rfl, ?hy5⟩) (Kept.refl _ _).drew ?_
                      case hy5 => (intro W hSw; (try dsimp only at hSw); go_simp; try with_reducible rfl)
                      try simp only [Act.put, List.setIfInBounds_toArray, List.set_cons_zero, List.set_cons_succ]
                      refine Gz.take (i := 6) (oi := { dst := some 75, op := Op.move (Operand.tmp 11), type := 3, pos := _, after := _, guard := none }) (v := ?_) rfl (by kernel_rfl) (by kernel_rfl) (by kernel_rfl) (by kernel_rfl) (fun _ _ _ h => h) (Or.inl ⟨by rfl, ?hy6⟩) (Kept.refl _ _).drew ?_
                      case hy6 => (intro W hSw; (try dsimp only at hSw); go_simp; try with_reducible rfl)
                      try simp only [Act.put, List.setIfInBounds_toArray, List.set_cons_zero, List.set_cons_succ]
                      refine Gz.take (i := 7) (oi := { dst := some 76, op := Op.indexAddr 22 (Operand.tmp 74) (Operand.tmp 75), type := 0, pos := _, after := _, guard := none }) (v := ?_) rfl (by kernel_rfl) (by kernel_rfl) (by kernel_rfl) (by kernel_rfl) (fun _ _ _ h => h) (Or.inl ⟨by rfl, ?hy7⟩) (Kept.refl _ _).drew ?_
                      case hy7 => (intro W hSw; (try dsimp only at hSw); go_simp; try with_reducible rfl)
                      try simp only [Act.put, List.setIfInBounds_toArray, List.set_cons_zero, List.set_cons_succ]
                      refine Gz.take (i := 8) (oi := { dst := some 77, op := Op.fieldAddr 35 (Operand.tmp 76) 0, type := 0, pos := _, after := _, guard := none }) (v := ?_) rfl (by kernel_rfl) (by kernel_rfl) (by kernel_rfl) (by kernel_rfl) (fun _ _ _ h => h) (Or.inl ⟨by rfl, ?hy8⟩) (Kept.refl _ _).drew ?_
                      case hy8 => (intro W hSw; (try dsimp only at hSw); go_simp; try with_reducible rfl)
                      try simp only [Act.put, List.setIfInBounds_toArray, List.set_cons_zero, List.set_cons_succ]
                      refine Gz.take (i := 9) (oi := { dst := some 78, op := Op.load 3 (Operand.tmp 77), type := 3, pos := _, after := _, guard := none }) (v := ?_) rfl (by kernel_rfl) (by kernel_rfl) (by kernel_rfl) (by kernel_rfl) (fun _ _ _ h => h) (Or.inl ⟨by rfl, ?hy9⟩) (Kept.refl _ _).drew ?_
                      case hy9 => (intro W hSw; (try dsimp only at hSw); go_simp; try with_reducible rfl)
                      try simp only [Act.put, List.setIfInBounds_toArray, List.set_cons_zero, List.set_cons_succ]
                      refine Gz.take (i := 10) (oi := { dst := some 79, op := Op.binOp BinOp.eql 3 (Operand.tmp 73) (Operand.tmp 78) 3, type := 4, pos := _, after := _, guard := none }) (v := ?_) rfl (by kernel_rfl) (by kernel_rfl) (by kernel_rfl) (by kernel_rfl) (fun _ _ _ h => h) (Or.inl ⟨by rfl, ?hy10⟩) (Kept.refl _ _).drew ?_
                      case hy10 => (intro W hSw; (try dsimp only at hSw); go_simp; try with_reducible rfl)
                      try simp only [Act.put, List.setIfInBounds_toArray, List.set_cons_zero, List.set_cons_succ]
                      refine Gz.take (i := 11) (oi := { dst := some 80, op := Op.move (Operand.tmp 79), type := 4, pos := _, after := _, guard := none }) (v := ?_) rfl (by kernel_rfl) (by kernel_rfl) (by kernel_rfl) (by kernel_rfl) (fun _ _ _ h => h) (Or.inl ⟨by rfl, ?hy11⟩) (Kept.refl _ _).drew ?_
                      case hy11 => (intro W hSw; (try dsimp only at hSw); go_simp; try with_reducible rfl)
                      try simp only [Act.put, List.setIfInBounds_toArray, List.set_cons_zero, List.set_cons_succ]
                      refine Gz.take (i := 12) (oi := { dst := some 81, op := Op.move (Operand.tmp 3), type := 22, pos := _, after := _, guard := some (11, true) }) (v := ?_) rfl (by kernel_rfl) (by kernel_rfl) (by kernel_rfl) (by kernel_rfl) (fun _ _ _ h => h) (Or.inl ⟨by rfl, ?hy12⟩) (Kept.refl _ _).drew ?_
                      case hy12 => (intro W hSw; (try dsimp only at hSw); go_simp; try with_reducible rfl)
                      try simp only [Act.put, List.setIfInBounds_toArray, List.set_cons_zero, List.set_cons_succ]
                      refine Gz.take (i := 13) (oi := { dst := some 82, op := Op.move (Operand.tmp 11), type := 3, pos := _, after := _, guard := some (11, true) }) (v := ?_) rfl (by kernel_rfl) (by kernel_rfl) (by kernel_rfl) (by kernel_rfl) (fun _ _ _ h => h) (Or.inl ⟨by rfl, ?hy13⟩) (Kept.refl _ _).drew ?_
                      case hy13 => (intro W hSw; (try dsimp only at hSw); go_simp; try with_reducible rfl)
                      try simp only [Act.put, List.setIfInBounds_toArray, List.set_cons_zero, List.set_cons_succ]
                      refine Gz.take (i := 14) (oi := { dst := some 83, op := Op.indexAddr 22 (Operand.tmp 81) (Operand.tmp 82), type := 0, pos := _, after := _, guard := some (11, true) }) (v := ?_) rfl (by kernel_rfl) (by kernel_rfl) (by kernel_rfl) (by kernel_rfl) (fun _ _ _ h => h) (Or.inl ⟨by rfl, ?hy14⟩) (Kept.refl _ _).drew ?_
                      case hy14 => (intro W hSw; (try dsimp only at hSw); go_simp; try with_reducible rfl)
                      try simp only [Act.put, List.setIfInBounds_toArray, List.set_cons_zero, List.set_cons_succ]
                      refine Gz.take (i := 15) (oi := { dst := some 84, op := Op.load 35 (Operand.tmp 83), type := 35, pos := _, after := _, guard := some (11, true) }) (v := ?_) rfl (by kernel_rfl) (by kernel_rfl) (by kernel_rfl) (by kernel_rfl) (fun _ _ _ h => h) (Or.inl ⟨by rfl, ?hy15⟩) (Kept.refl _ _).drew ?_
                      case hy15 => (intro W hSw; (try dsimp only at hSw); go_simp; try with_reducible rfl)
                      try simp only [Act.put, List.setIfInBounds_toArray, List.set_cons_zero, List.set_cons_succ]
                      refine Gz.take (i := 16) (oi := { dst := some 85, op := Op.move (Operand.tmp 3), type := 22, pos := _, after := _, guard := some (11, true) }) (v := ?_) rfl (by kernel_rfl) (by kernel_rfl) (by kernel_rfl) (by kernel_rfl) (fun _ _ _ h => h) (Or.inl ⟨by rfl, ?hy16⟩) (Kept.refl _ _).drew ?_
                      case hy16 => (intro W hSw; (try dsimp only at hSw); go_simp; try with_reducible rfl)
                      try simp only [Act.put, List.setIfInBounds_toArray, List.set_cons_zero, List.set_cons_succ]
                      refine Gz.take (i := 17) (oi := { dst := some 86, op := Op.move (Operand.tmp 10), type := 3, pos := _, after := _, guard := some (11, true) }) (v := ?_) rfl (by kernel_rfl) (by kernel_rfl) (by kernel_rfl) (by kernel_rfl) (fun _ _ _ h => h) (Or.inl ⟨by rfl, ?hy17⟩) (Kept.refl _ _).drew ?_
                      case hy17 => (intro W hSw; (try dsimp only at hSw); go_simp; try with_reducible rfl)
                      try simp only [Act.put, List.setIfInBounds_toArray, List.set_cons_zero, List.set_cons_succ]
                      refine Gz.take (i := 18) (oi := { dst := some 87, op := Op.indexAddr 22 (Operand.tmp 85) (Operand.tmp 86), type := 0, pos := _, after := _, guard := some (11, true) }) (v := ?_) rfl (by kernel_rfl) (by kernel_rfl) (by kernel_rfl) (by kernel_rfl) (fun _ _ _ h => h) (Or.inl ⟨by rfl, ?hy18⟩) (Kept.refl _ _).drew ?_
                      case hy18 => (intro W hSw; (try dsimp only at hSw); go_simp; try with_reducible rfl)
                      try simp only [Act.put, List.setIfInBounds_toArray, List.set_cons_zero, List.set_cons_succ]
                      refine Gz.take (i := 19) (oi := { dst := some 88, op := Op.load 35 (Operand.tmp 87), type := 35, pos := _, after := _, guard := some (11, true) }) (v := ?_) rfl (by kernel_rfl) (by kernel_rfl) (by kernel_rfl) (by kernel_rfl) (fun _ _ _ h => h) (Or.inl ⟨by rfl, ?hy19⟩) (Kept.refl _ _).drew ?_
                      case hy19 => (intro W hSw; (try dsimp only at hSw); go_simp; try with_reducible rfl)
                      try simp only [Act.put, List.setIfInBounds_toArray, List.set_cons_zero, List.set_cons_succ]
                      refine Gz.one (i := 20) (o := { dst := some 89, op := Op.call { callee := Callee.value (Operand.func 8), args := #[Operand.tmp 84, Operand.tmp 88], argTypes := #[35, 35] }, type := 4, pos := _, after := _, guard := some (11, true) }) (by kernel_rfl) rfl (fun K hK => ?_)
                      go_simp
                      with_reducible refine Calls.mono (BF _) ?_
                      rintro e w6 ⟨rfl, k6⟩
                      have s6 : Kept (fun _ => True) wq w6 := ((Kept.refl _ _).drew).trans k6
                      clear k6
                      try go_wp2_with fail
                      refine hK.out _ _ (fun _ => s6) ?_
                      clear hK K
                      try simp only [Act.put, List.setIfInBounds_toArray, List.set_cons_zero, List.set_cons_succ]
                      refine Gz.take (i := 21) (oi := { dst := some 90, op := Op.unOp UnOp.not 4 (Operand.tmp 89), type := 4, pos := _, after := _, guard := some (11, true) }) (v := ?_) rfl (by kernel_rfl) (by kernel_rfl) (by kernel_rfl) (by kernel_rfl) (fun _ _ _ h => h) (Or.inl ⟨by rfl, ?hy21⟩) s6 ?_
                      case hy21 => (intro W hSw; (try dsimp only at hSw); go_simp; try with_reducible rfl)
                      try simp only [Act.put, List.setIfInBounds_toArray, List.set_cons_zero, List.set_cons_succ]
                      refine Gz.take (i := 22) (oi := { dst := some 91, op := Op.pick (Operand.tmp 80) (Operand.tmp 90) (Operand.const (Value.bool false)), type := 4, pos := _, after := _, guard := none }) (v := ?_) rfl (by kernel_rfl) (by kernel_rfl) (by kernel_rfl) (by kernel_rfl) (fun _ _ _ h => h) (Or.inl ⟨by rfl, ?hy22⟩) s6 ?_
                      case hy22 => (intro W hSw; (try dsimp only at hSw); go_simp; try with_reducible rfl)
                      try simp only [Act.put, List.setIfInBounds_toArray, List.set_cons_zero, List.set_cons_succ]
                      refine Gz.take (i := 23) (oi := { dst := some 92, op := Op.move (Operand.tmp 91), type := 4, pos := _, after := _, guard := none }) (v := ?_) rfl (by kernel_rfl) (by kernel_rfl) (by kernel_rfl) (by kernel_rfl) (fun _ _ _ h => h) (Or.inl ⟨by rfl, ?hy23⟩) s6 ?_
                      case hy23 => (intro W hSw; (try dsimp only at hSw); go_simp; try with_reducible rfl)
                      try simp only [Act.put, List.setIfInBounds_toArray, List.set_cons_zero, List.set_cons_succ]
                      refine Gz.take (i := 24) (oi := { dst := some 93, op := Op.move (Operand.tmp 3), type := 22, pos := _, after := _, guard := some (23, false) }) (v := ?_) rfl (by kernel_rfl) (by kernel_rfl) (by kernel_rfl) (by kernel_rfl) (fun _ _ _ h => h) (Or.inl ⟨by rfl, ?hy24⟩) s6 ?_
                      case hy24 => (intro W hSw; (try dsimp only at hSw); go_simp; try with_reducible rfl)
                      try simp only [Act.put, List.setIfInBounds_toArray, List.set_cons_zero, List.set_cons_succ]
                      refine Gz.take (i := 25) (oi := { dst := some 94, op := Op.move (Operand.tmp 11), type := 3, pos := _, after := _, guard := some (23, false) }) (v := ?_) rfl (by kernel_rfl) (by kernel_rfl) (by kernel_rfl) (by kernel_rfl) (fun _ _ _ h => h) (Or.inl ⟨by rfl, ?hy25⟩) s6 ?_
                      case hy25 => (intro W hSw; (try dsimp only at hSw); go_simp; try with_reducible rfl)
                      try simp only [Act.put, List.setIfInBounds_toArray, List.set_cons_zero, List.set_cons_succ]
                      refine Gz.take (i := 26) (oi := { dst := some 95, op := Op.indexAddr 22 (Operand.tmp 93) (Operand.tmp 94), type := 0, pos := _, after := _, guard := some (23, false) }) (v := ?_) rfl (by kernel_rfl) (by kernel_rfl) (by kernel_rfl) (by kernel_rfl) (fun _ _ _ h => h) (Or.inl ⟨by rfl, ?hy26⟩) s6 ?_
                      case hy26 => (intro W hSw; (try dsimp only at hSw); go_simp; try with_reducible rfl)
                      try simp only [Act.put, List.setIfInBounds_toArray, List.set_cons_zero, List.set_cons_succ]
                      refine Gz.take (i := 27) (oi := { dst := some 96, op := Op.fieldAddr 35 (Operand.tmp 95) 3, type := 0, pos := _, after := _, guard := some (23, false) }) (v := ?_) rfl (by kernel_rfl) (by kernel_rfl) (by kernel_rfl) (by kernel_rfl) (fun _ _ _ h => h) (Or.inl ⟨by rfl, ?hy27⟩) s6 ?_
                      case hy27 => (intro W hSw; (try dsimp only at hSw); go_simp; try with_reducible rfl)
                      try simp only [Act.put, List.setIfInBounds_toArray, List.set_cons_zero, List.set_cons_succ]
                      refine Gz.take (i := 28) (oi := { dst := some 97, op := Op.load 3 (Operand.tmp 96), type := 3, pos := _, after := _, guard := some (23, false) }) (v := ?_) rfl (by kernel_rfl) (by kernel_rfl) (by kernel_rfl) (by kernel_rfl) (fun _ _ _ h => h) (Or.inl ⟨by rfl, ?hy28⟩) s6 ?_
                      case hy28 => (intro W hSw; (try dsimp only at hSw); go_simp; try with_reducible rfl)
                      try simp only [Act.put, List.setIfInBounds_toArray, List.set_cons_zero, List.set_cons_succ]
                      refine Gz.take (i := 29) (oi := { dst := some 98, op := Op.move (Operand.tmp 3), type := 22, pos := _, after := _, guard := some (23, false) }) (v := ?_) rfl (by kernel_rfl) (by kernel_rfl) (by kernel_rfl) (by kernel_rfl) (fun _ _ _ h => h) (Or.inl ⟨by rfl, ?hy29⟩) s6 ?_
                      case hy29 => (intro W hSw; (try dsimp only at hSw); go_simp; try with_reducible rfl)
                      try simp only [Act.put, List.setIfInBounds_toArray, List.set_cons_zero, List.set_cons_succ]
                      refine Gz.take (i := 30) (oi := { dst := some 99, op := Op.move (Operand.tmp 10), type := 3, pos := _, after := _, guard := some (23, false) }) (v := ?_) rfl (by kernel_rfl) (by kernel_rfl) (by kernel_rfl) (by kernel_rfl) (fun _ _ _ h => h) (Or.inl ⟨by rfl, ?hy30⟩) s6 ?_
                      case hy30 => (intro W hSw; (try dsimp only at hSw); go_simp; try with_reducible rfl)
                      try simp only [Act.put, List.setIfInBounds_toArray, List.set_cons_zero, List.set_cons_succ]
                      refine Gz.take (i := 31) (oi := { dst := some 100, op := Op.indexAddr 22 (Operand.tmp 98) (Operand.tmp 99), type := 0, pos := _, after := _, guard := some (23, false) }) (v := ?_) rfl (by kernel_rfl) (by kernel_rfl) (by kernel_rfl) (by kernel_rfl) (fun _ _ _ h => h) (Or.inl ⟨by rfl, ?hy31⟩) s6 ?_
                      case hy31 => (intro W hSw; (try dsimp only at hSw); go_simp; try with_reducible rfl)
                      try simp only [Act.put, List.setIfInBounds_toArray, List.set_cons_zero, List.set_cons_succ]
                      refine Gz.take (i := 32) (oi := { dst := some 101, op := Op.fieldAddr 35 (Operand.tmp 100) 3, type := 0, pos := _, after := _, guard := some (23, false) }) (v := ?_) rfl (by kernel_rfl) (by kernel_rfl) (by kernel_rfl) (by kernel_rfl) (fun _ _ _ h => h) (Or.inl ⟨by rfl, ?hy32⟩) s6 ?_
                      case hy32 => (intro W hSw; (try dsimp only at hSw); go_simp; try with_reducible rfl)
                      try simp only [Act.put, List.setIfInBounds_toArray, List.set_cons_zero, List.set_cons_succ]
                      refine Gz.take (i := 33) (oi := { dst := some 102, op := Op.load 3 (Operand.tmp 101), type := 3, pos := _, after := _, guard := some (23, false) }) (v := ?_) rfl (by kernel_rfl) (by kernel_rfl) (by kernel_rfl) (by kernel_rfl) (fun _ _ _ h => h) (Or.inl ⟨by rfl, ?hy33⟩) s6 ?_
                      case hy33 => (intro W hSw; (try dsimp only at hSw); go_simp; try with_reducible rfl)
                      try simp only [Act.put, List.setIfInBounds_toArray, List.set_cons_zero, List.set_cons_succ]
                      refine Gz.take (i := 34) (oi := { dst := some 103, op := Op.binOp BinOp.geq 3 (Operand.tmp 97) (Operand.tmp 102) 3, type := 4, pos := _, after := _, guard := some (23, false) }) (v := ?_) rfl (by kernel_rfl) (by kernel_rfl) (by kernel_rfl) (by kernel_rfl) (fun _ _ _ h => h) (Or.inl ⟨by rfl, ?hy34⟩) s6 ?_
                      case hy34 => (intro W hSw; (try dsimp only at hSw); go_simp; try with_reducible rfl)
                      try simp only [Act.put, List.setIfInBounds_toArray, List.set_cons_zero, List.set_cons_succ]
                      refine Gz.take (i := 35) (oi := { dst := some 104, op := Op.pick (Operand.tmp 92) (Operand.const (Value.bool true)) (Operand.tmp 103), type := 4, pos := _, after := _, guard := none }) (v := ?_) rfl (by kernel_rfl) (by kernel_rfl) (by kernel_rfl) (by kernel_rfl) (fun _ _ _ h => h) (Or.inl ⟨by rfl, ?hy35⟩) s6 ?_
                      case hy35 => (intro W hSw; (try dsimp only at hSw); go_simp; try with_reducible rfl)
                      try simp only [Act.put, List.setIfInBounds_toArray, List.set_cons_zero, List.set_cons_succ]
                      refine Gz.done (by kernel_rfl) ?_ _
                      clear c0 c1 c2 c3 c4 c5 c6 c7 d0 d1 d2 d3 d4 d5 d6 d7 BF RI RK
                      try rw [g1]
                      go_wp2_with fail
                      go_roundw
                      case rel => exact ⟨k + 1, HKI2.out, by go_num, HKq.out.trans s6⟩
                      case measure => have := HKI2.out; simp [intOf]; omega
                    · have hcb : (cl' == cl) = false := beq_eq_false_iff_ne.2 (fun e => hcl e.symm)
                      clear hcl BF0 HON
                      go_upto_region 23 with fail
                      refine Gz.begin (fun W => Kept (fun _ => True) wq W) (fun _ => false) (by kernel_rfl) ?_
                      refine Gz.take (i := 0) (oi := { dst := some 69, op := Op.move (Operand.tmp 3), type := 22, pos := _, after := _, guard := none }) (v := ?_) rfl (by kernel_rfl) (by kernel_rfl) (by kernel_rfl) (by kernel_rfl) (fun _ _ _ h => h) (Or.inl ⟨by rfl, ?hy0⟩) (Kept.refl _ _).drew ?_
                      case hy0 => (intro W hSw; (try dsimp only at hSw); go_simp; try with_reducible rfl)
                      try simp only [Act.put, List.setIfInBounds_toArray, List.set_cons_zero, List.set_cons_succ]
                      refine Gz.take (i := 1) (oi := { dst := some 70, op := Op.move (Operand.tmp 10), type := 3, pos := _, after := _, guard := none }) (v := ?_) rfl (by kernel_rfl) (by kernel_rfl) (by kernel_rfl) (by kernel_rfl) (fun _ _ _ h => h) (Or.inl ⟨by rfl, ?hy1⟩) (Kept.refl _ _).drew ?_
                      case hy1 => (intro W hSw; (try dsimp only at hSw); go_simp; try with_reducible rfl)
                      try simp only [Act.put, List.setIfInBounds_toArray, List.set_cons_zero, List.set_cons_succ]
                      refine Gz.take (i := 2) (oi := { dst := some 71, op := Op.indexAddr 22 (Operand.tmp 69) (Operand.tmp 70), type := 0, pos := _, after := _, guard := none }) (v := ?_) rfl (by kernel_rfl) (by kernel_rfl) (by kernel_rfl) (by kernel_rfl) (fun _ _ _ h => h) (Or.inl ⟨by rfl, ?hy2⟩) (Kept.refl _ _).drew ?_
                      case hy2 => (intro W hSw; (try dsimp only at hSw); go_simp; try with_reducible rfl)
                      try simp only [Act.put, List.setIfInBounds_toArray, List.set_cons_zero, List.set_cons_succ]
                      refine Gz.take (i := 3) (oi := { dst := some 72, op := Op.fieldAddr 35 (Operand.tmp 71) 0, type := 0, pos := _, after := _, guard := none }) (v := ?_) rfl (by kernel_rfl) (by kernel_rfl) (by kernel_rfl) (by kernel_rfl) (fun _ _ _ h => h) (Or.inl ⟨by rfl, ?hy3⟩) (Kept.refl _ _).drew ?_
                      case hy3 => (intro W hSw; (try dsimp only at hSw); go_simp; try with_reducible rfl)
                      try simp only [Act.put, List.setIfInBounds_toArray, List.set_cons_zero, List.set_cons_succ]
                      refine Gz.take (i := 4) (oi := { dst := some 73, op := Op.load 3 (Operand.tmp 72), type := 3, pos := _, after := _, guard := none }) (v := ?_) rfl (by kernel_rfl) (by kernel_rfl) (by kernel_rfl) (by kernel_rfl) (fun _ _ _ h => h) (Or.inl ⟨by rfl, ?hy4⟩) (Kept.refl _ _).drew ?_
                      case hy4 => (intro W hSw; (try dsimp only at hSw); go_simp; try with_reducible rfl)
                      try simp only [Act.put, List.setIfInBounds_toArray, List.set_cons_zero, List.set_cons_succ]
                      refine Gz.take (i := 5) (oi := { dst := some 74, op := Op.move (Operand.tmp 3), type := 22, pos := _, after := _, guard := none }) (v := ?_) rfl (by kernel_rfl) (by kernel_rfl) (by kernel_rfl) (by kernel_rfl) (fun _ _ _ h => h) (Or.inl ⟨by rfl, ?hy5⟩) (Kept.refl _ _).drew ?_
                      case hy5 => (intro W hSw; (try dsimp only at hSw); go_simp; try with_reducible rfl)
                      try simp only [Act.put, List.setIfInBounds_toArray, List.set_cons_zero, List.set_cons_succ]
                      refine Gz.take (i := 6) (oi := { dst := some 75, op := Op.move (Operand.tmp 11), type := 3, pos := _, after := _, guard := none }) (v := ?_) rfl (by kernel_rfl) (by kernel_rfl) (by kernel_rfl) (by kernel_rfl) (fun _ _ _ h => h) (Or.inl ⟨by rfl, ?hy6⟩) (Kept.refl _ _).drew ?_
                      case hy6 => (intro W hSw; (try dsimp only at hSw); go_simp; try with_reducible rfl)
                      try simp only [Act.put, List.setIfInBounds_toArray, List.set_cons_zero, List.set_cons_succ]
                      refine Gz.take (i := 7) (oi := { dst := some 76, op := Op.indexAddr 22 (Operand.tmp 74) (Operand.tmp 75), type := 0, pos := _, after := _, guard := none }) (v := ?_) rfl (by kernel_rfl) (by kernel_rfl) (by kernel_rfl) (by kernel_rfl) (fun _ _ _ h => h) (Or.inl ⟨by rfl, ?hy7⟩) (Kept.refl _ _).drew ?_
                      case hy7 => (intro W hSw; (try dsimp only at hSw); go_simp; try with_reducible rfl)
                      try simp only [Act.put, List.setIfInBounds_toArray, List.set_cons_zero, List.set_cons_succ]
                      refine Gz.take (i := 8) (oi := { dst := some 77, op := Op.fieldAddr 35 (Operand.tmp 76) 0, type := 0, pos := _, after := _, guard := none }) (v := ?_) rfl (by kernel_rfl) (by kernel_rfl) (by kernel_rfl) (by kernel_rfl) (fun _ _ _ h => h) (Or.inl ⟨by rfl, ?hy8⟩) (Kept.refl _ _).drew ?_
                      case hy8 => (intro W hSw; (try dsimp only at hSw); go_simp; try with_reducible rfl)
                      try simp only [Act.put, List.setIfInBounds_toArray, List.set_cons_zero, List.set_cons_succ]
                      refine Gz.take (i := 9) (oi := { dst := some 78, op := Op.load 3 (Operand.tmp 77), type := 3, pos := _, after := _, guard := none }) (v := ?_) rfl (by kernel_rfl) (by kernel_rfl) (by kernel_rfl) (by kernel_rfl) (fun _ _ _ h => h) (Or.inl ⟨by rfl, ?hy9⟩) (Kept.refl _ _).drew ?_
                      case hy9 => (intro W hSw; (try dsimp only at hSw); go_simp; try with_reducible rfl)
                      try simp only [Act.put, List.setIfInBounds_toArray, List.set_cons_zero, List.set_cons_succ]
                      refine Gz.take (i := 10) (oi := { dst := some 79, op := Op.binOp BinOp.eql 3 (Operand.tmp 73) (Operand.tmp 78) 3, type := 4, pos := _, after := _, guard := none }) (v := ?_) rfl (by kernel_rfl) (by kernel_rfl) (by kernel_rfl) (by kernel_rfl) (fun _ _ _ h => h) (Or.inl ⟨by rfl, ?hy10⟩) (Kept.refl _ _).drew ?_
                      case hy10 => (intro W hSw; (try dsimp only at hSw); go_simp; try with_reducible rfl)
                      try simp only [Act.put, List.setIfInBounds_toArray, List.set_cons_zero, List.set_cons_succ]
                      refine Gz.take (i := 11) (oi := { dst := some 80, op := Op.move (Operand.tmp 79), type := 4, pos := _, after := _, guard := none }) (v := ?_) rfl (by kernel_rfl) (by kernel_rfl) (by kernel_rfl) (by kernel_rfl) (fun _ _ _ h => h) (Or.inl ⟨by rfl, ?hy11⟩) (Kept.refl _ _).drew ?_
                      case hy11 => (intro W hSw; (try dsimp only at hSw); go_simp; try with_reducible rfl)
                      try simp only [Act.put, List.setIfInBounds_toArray, List.set_cons_zero, List.set_cons_succ]
                      refine Gz.take (i := 12) (oi := { dst := some 81, op := Op.move (Operand.tmp 3), type := 22, pos := _, after := _, guard := some (11, true) }) (v := undef) rfl (by kernel_rfl) (by kernel_rfl) (by kernel_rfl) (by kernel_rfl) (fun _ _ _ h => h) (Or.inr ⟨by rfl, rfl⟩) (Kept.refl _ _).drew ?_
                      try simp only [Act.put, List.setIfInBounds_toArray, List.set_cons_zero, List.set_cons_succ]
                      refine Gz.take (i := 13) (oi := { dst := some 82, op := Op.move (Operand.tmp 11), type := 3, pos := _, after := _, guard := some (11, true) }) (v := undef) rfl (by kernel_rfl) (by kernel_rfl) (by kernel_rfl) (by kernel_rfl) (fun _ _ _ h => h) (Or.inr ⟨by rfl, rfl⟩) (Kept.refl _ _).drew ?_
                      try simp only [Act.put, List.setIfInBounds_toArray, List.set_cons_zero, List.set_cons_succ]
                      refine Gz.take (i := 14) (oi := { dst := some 83, op := Op.indexAddr 22 (Operand.tmp 81) (Operand.tmp 82), type := 0, pos := _, after := _, guard := some (11, true) }) (v := undef) rfl (by kernel_rfl) (by kernel_rfl) (by kernel_rfl) (by kernel_rfl) (fun _ _ _ h => h) (Or.inr ⟨by rfl, rfl⟩) (Kept.refl _ _).drew ?_
                      try simp only [Act.put, List.setIfInBounds_toArray, List.set_cons_zero, List.set_cons_succ]
                      refine Gz.take (i := 15) (oi := { dst := some 84, op := Op.load 35 (Operand.tmp 83), type := 35, pos := _, after := _, guard := some (11, true) }) (v := undef) rfl (by kernel_rfl) (by kernel_rfl) (by kernel_rfl) (by kernel_rfl) (fun _ _ _ h => h) (Or.inr ⟨by rfl, rfl⟩) (Kept.refl _ _).drew ?_
                      try simp only [Act.put, List.setIfInBounds_toArray, List.set_cons_zero, List.set_cons_succ]
                      refine Gz.take (i := 16) (oi := { dst := some 85, op := Op.move (Operand.tmp 3), type := 22, pos := _, after := _, guard := some (11, true) }) (v := undef) rfl (by kernel_rfl) (by kernel_rfl) (by kernel_rfl) (by kernel_rfl) (fun _ _ _ h => h) (Or.inr ⟨by rfl, rfl⟩) (Kept.refl _ _).drew ?_
                      try simp only [Act.put, List.setIfInBounds_toArray, List.set_cons_zero, List.set_cons_succ]
                      refine Gz.take (i := 17) (oi := { dst := some 86, op := Op.move (Operand.tmp 10), type := 3, pos := _, after := _, guard := some (11, true) }) (v := undef) rfl (by kernel_rfl) (by kernel_rfl) (by kernel_rfl) (by kernel_rfl) (fun _ _ _ h => h) (Or.inr ⟨by rfl, rfl⟩) (Kept.refl _ _).drew ?_
                      try simp only [Act.put, List.setIfInBounds_toArray, List.set_cons_zero, List.set_cons_succ]
                      refine Gz.take (i := 18) (oi := { dst := some 87, op := Op.indexAddr 22 (Operand.tmp 85) (Operand.tmp 86), type := 0, pos := _, after := _, guard := some (11, true) }) (v := undef) rfl (by kernel_rfl) (by kernel_rfl) (by kernel_rfl) (by kernel_rfl) (fun _ _ _ h => h) (Or.inr ⟨by rfl, rfl⟩) (Kept.refl _ _).drew ?_
                      try simp only [Act.put, List.setIfInBounds_toArray, List.set_cons_zero, List.set_cons_succ]
                      refine Gz.take (i := 19) (oi := { dst := some 88, op := Op.load 35 (Operand.tmp 87), type := 35, pos := _, after := _, guard := some (11, true) }) (v := undef) rfl (by kernel_rfl) (by kernel_rfl) (by kernel_rfl) (by kernel_rfl) (fun _ _ _ h => h) (Or.inr ⟨by rfl, rfl⟩) (Kept.refl _ _).drew ?_
                      try simp only [Act.put, List.setIfInBounds_toArray, List.set_cons_zero, List.set_cons_succ]
                      refine Gz.take (i := 20) (oi := { dst := some 89, op := Op.call { callee := Callee.value (Operand.func 8), args := #[Operand.tmp 84, Operand.tmp 88], argTypes := #[35, 35] }, type := 4, pos := _, after := _, guard := some (11, true) }) (v := undef) rfl (by kernel_rfl) (by kernel_rfl) (by kernel_rfl) (by kernel_rfl) (fun _ _ _ h => h) (Or.inr ⟨by rfl, rfl⟩) (Kept.refl _ _).drew ?_
                      try simp only [Act.put, List.setIfInBounds_toArray, List.set_cons_zero, List.set_cons_succ]
                      refine Gz.take (i := 21) (oi := { dst := some 90, op := Op.unOp UnOp.not 4 (Operand.tmp 89), type := 4, pos := _, after := _, guard := some (11, true) }) (v := undef) rfl (by kernel_rfl) (by kernel_rfl) (by kernel_rfl) (by kernel_rfl) (fun _ _ _ h => h) (Or.inr ⟨by rfl, rfl⟩) (Kept.refl _ _).drew ?_
                      try simp only [Act.put, List.setIfInBounds_toArray, List.set_cons_zero, List.set_cons_succ]
                      refine Gz.take (i := 22) (oi := { dst := some 91, op := Op.pick (Operand.tmp 80) (Operand.tmp 90) (Operand.const (Value.bool false)), type := 4, pos := _, after := _, guard := none }) (v := ?_) rfl (by kernel_rfl) (by kernel_rfl) (by kernel_rfl) (by kernel_rfl) (fun _ _ _ h => h) (Or.inl ⟨by rfl, ?hy22⟩) (Kept.refl _ _).drew ?_
                      case hy22 => (intro W hSw; (try dsimp only at hSw); go_simp; try with_reducible rfl)
                      try simp only [Act.put, List.setIfInBounds_toArray, List.set_cons_zero, List.set_cons_succ]
                      refine Gz.take (i := 23) (oi := { dst := some 92, op := Op.move (Operand.tmp 91), type := 4, pos := _, after := _, guard := none }) (v := ?_) rfl (by kernel_rfl) (by kernel_rfl) (by kernel_rfl) (by kernel_rfl) (fun _ _ _ h => h) (Or.inl ⟨by rfl, ?hy23⟩) (Kept.refl _ _).drew ?_
                      case hy23 => (intro W hSw; (try dsimp only at hSw); go_simp; try with_reducible rfl)
                      try simp only [Act.put, List.setIfInBounds_toArray, List.set_cons_zero, List.set_cons_succ]
                      refine Gz.take (i := 24) (oi := { dst := some 93, op := Op.move (Operand.tmp 3), type := 22, pos := _, after := _, guard := some (23, false) }) (v := ?_) rfl (by kernel_rfl) (by kernel_rfl) (by kernel_rfl) (by kernel_rfl) (fun _ _ _ h => h) (Or.inl ⟨by rfl, ?hy24⟩) (Kept.refl _ _).drew ?_
                      case hy24 => (intro W hSw; (try dsimp only at hSw); go_simp; try with_reducible rfl)
                      try simp only [Act.put, List.setIfInBounds_toArray, List.set_cons_zero, List.set_cons_succ]
                      refine Gz.take (i := 25) (oi := { dst := some 94, op := Op.move (Operand.tmp 11), type := 3, pos := _, after := _, guard := some (23, false) }) (v := ?_) rfl (by kernel_rfl) (by kernel_rfl) (by kernel_rfl) (by kernel_rfl) (fun _ _ _ h => h) (Or.inl ⟨by rfl, ?hy25⟩) (Kept.refl _ _).drew ?_
                      case hy25 => (intro W hSw; (try dsimp only at hSw); go_simp; try with_reducible rfl)
                      try simp only [Act.put, List.setIfInBounds_toArray, List.set_cons_zero, List.set_cons_succ]
                      refine Gz.take (i := 26) (oi := { dst := some 95, op := Op.indexAddr 22 (Operand.tmp 93) (Operand.tmp 94), type := 0, pos := _, after := _, guard := some (23, false) }) (v := ?_) rfl (by kernel_rfl) (by kernel_rfl) (by kernel_rfl) (by kernel_rfl) (fun _ _ _ h => h) (Or.inl ⟨by rfl, ?hy26⟩) (Kept.refl _ _).drew ?_
                      case hy26 => (intro W hSw; (try dsimp only at hSw); go_simp; try with_reducible rfl)
                      try simp only [Act.put, List.setIfInBounds_toArray, List.set_cons_zero, List.set_cons_succ]
                      refine Gz.take (i := 27) (oi := { dst := some 96, op := Op.fieldAddr 35 (Operand.tmp 95) 3, type := 0, pos := _, after := _, guard := some (23, false) }) (v := ?_) rfl (by kernel_rfl) (by kernel_rfl) (by kernel_rfl) (by kernel_rfl) (fun _ _ _ h => h) (Or.inl ⟨by rfl, ?hy27⟩) (Kept.refl _ _).drew ?_
                      case hy27 => (intro W hSw; (try dsimp only at hSw); go_simp; try with_reducible rfl)
                      try simp only [Act.put, List.setIfInBounds_toArray, List.set_cons_zero, List.set_cons_succ]
                      refine Gz.take (i := 28) (oi := { dst := some 97, op := Op.load 3 (Operand.tmp 96), type := 3, pos := _, after := _, guard := some (23, false) }) (v := ?_) rfl (by kernel_rfl) (by kernel_rfl) (by kernel_rfl) (by kernel_rfl) (fun _ _ _ h => h) (Or.inl ⟨by rfl, ?hy28⟩) (Kept.refl _ _).drew ?_
                      case hy28 => (intro W hSw; (try dsimp only at hSw); go_simp; try with_reducible rfl)
                      try simp only [Act.put, List.setIfInBounds_toArray, List.set_cons_zero, List.set_cons_succ]
                      refine Gz.take (i := 29) (oi := { dst := some 98, op := Op.move (Operand.tmp 3), type := 22, pos := _, after := _, guard := some (23, false) }) (v := ?_) rfl (by kernel_rfl) (by kernel_rfl) (by kernel_rfl) (by kernel_rfl) (fun _ _ _ h => h) (Or.inl ⟨by rfl, ?hy29⟩) (Kept.refl _ _).drew ?_
                      case hy29 => (intro W hSw; (try dsimp only at hSw); go_simp; try with_reducible rfl)
                      try simp only [Act.put, List.setIfInBounds_toArray, List.set_cons_zero, List.set_cons_succ]
                      refine Gz.take (i := 30) (oi := { dst := some 99, op := Op.move (Operand.tmp 10), type := 3, pos := _, after := _, guard := some (23, false) }) (v := ?_) rfl (by kernel_rfl) (by kernel_rfl) (by kernel_rfl) (by kernel_rfl) (fun _ _ _ h => h) (Or.inl ⟨by rfl, ?hy30⟩) (Kept.refl _ _).drew ?_
                      case hy30 => (intro W hSw; (try dsimp only at hSw); go_simp; try with_reducible rfl)
                      try simp only [Act.put, List.setIfInBounds_toArray, List.set_cons_zero, List.set_cons_succ]
                      refine Gz.take (i := 31) (oi := { dst := some 100, op := Op.indexAddr 22 (Operand.tmp 98) (Operand.tmp 99), type := 0, pos := _, after := _, guard := some (23, false) }) (v := ?_) rfl (by kernel_rfl) (by kernel_rfl) (by kernel_rfl) (by kernel_rfl) (fun _ _ _ h => h) (Or.inl ⟨by rfl, ?hy31⟩) (Kept.refl _ _).drew ?_
                      case hy31 => (intro W hSw; (try dsimp only at hSw); go_simp; try with_reducible rfl)
                      try simp only [Act.put, List.setIfInBounds_toArray, List.set_cons_zero, List.set_cons_succ]
                      refine Gz.take (i := 32) (oi := { dst := some 101, op := Op.fieldAddr 35 (Operand.tmp 100) 3, type := 0, pos := _, after := _, guard := some (23, false) }) (v := ?_) rfl (by kernel_rfl) (by kernel_rfl) (by kernel_rfl) (by kernel_rfl) (fun _ _ _ h => h) (Or.inl ⟨by rfl, ?hy32⟩) (Kept.refl _ _).drew ?_
                      case hy32 => (intro W hSw; (try dsimp only at hSw); go_simp; try with_reducible rfl)
                      try simp only [Act.put, List.setIfInBounds_toArray, List.set_cons_zero, List.set_cons_succ]
                      refine Gz.take (i := 33) (oi := { dst := some 102, op := Op.load 3 (Operand.tmp 101), type := 3, pos := _, after := _, guard := some (23, false) }) (v := ?_) rfl (by kernel_rfl) (by kernel_rfl) (by kernel_rfl) (by kernel_rfl) (fun _ _ _ h => h) (Or.inl ⟨by rfl, ?hy33⟩) (Kept.refl _ _).drew ?_
                      case hy33 => (intro W hSw; (try dsimp only at hSw); go_simp; try with_reducible rfl)
                      try simp only [Act.put, List.setIfInBounds_toArray, List.set_cons_zero, List.set_cons_succ]
                      refine Gz.take (i := 34) (oi := { dst := some 103, op := Op.binOp BinOp.geq 3 (Operand.tmp 97) (Operand.tmp 102) 3, type := 4, pos := _, after := _, guard := some (23, false) }) (v := ?_) rfl (by kernel_rfl) (by kernel_rfl) (by kernel_rfl) (by kernel_rfl) (fun _ _ _ h => h) (Or.inl ⟨by rfl, ?hy34⟩) (Kept.refl _ _).drew ?_
                      case hy34 => (intro W hSw; (try dsimp only at hSw); go_simp; try with_reducible rfl)
                      try simp only [Act.put, List.setIfInBounds_toArray, List.set_cons_zero, List.set_cons_succ]
                      refine Gz.take (i := 35) (oi := { dst := some 104, op := Op.pick (Operand.tmp 92) (Operand.const (Value.bool true)) (Operand.tmp 103), type := 4, pos := _, after := _, guard := none }) (v := ?_) rfl (by kernel_rfl) (by kernel_rfl) (by kernel_rfl) (by kernel_rfl) (fun _ _ _ h => h) (Or.inl ⟨by rfl, ?hy35⟩) (Kept.refl _ _).drew ?_
                      case hy35 => (intro W hSw; (try dsimp only at hSw); go_simp; try with_reducible rfl)
                      try simp only [Act.put, List.setIfInBounds_toArray, List.set_cons_zero, List.set_cons_succ]
                      refine Gz.done (by kernel_rfl) ?_ _
                      try rw [g1]
                      go_wp2_with fail
                      go_roundw
                      case rel =>
                        exact ⟨k + 1, HKI2.out, by go_num, HKq.out.drew⟩
                      case measure => have := HKI2.out; simp [intOf]; omega
                  · obtain rfl : k = i := by omega
                    clear hlt hk hkr
                    go_wp2_with fail
                    go_roundw
                    case rel => exact ⟨k + 1, HI.out, by go_num, rfl, HKq.out⟩
                    case measure => have := HI.out; simp [intOf]; omega
            · obtain rfl : i = xs.length := by omega
              have eZ : ((xs.map Oc.pc).take xs.length).countP (fun x => decide (0 ≤ x.tz)) = Z := by
                rw [List.take_of_length_le (by simp)]
                exact HZe.out.symm
              rw [eZ]
              clear hlt hi hk eZ
              go_wp2_with (go_at_call 10; (with_reducible refine Calls.mono (known_any _) ?_); rintro e w9 ⟨rfl, k9⟩)
              go_ret
              exact ⟨rfl, (K1.out.trans HKI.out).trans k9⟩

end Go.Proofs.Ytllopkebamlgeaa
