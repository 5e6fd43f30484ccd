/-
  TxnTexts.
-/
import Derived.Test.YtebpkhemkdgbjaaYB
import Derived.Test.YtebpkhemkdgbjaaYO
import Derived.Test.YtebpkhemkdgbjaaYTt
import Derived.Test.YtebpkhemkdgbjaaYAbc
import Derived.Test.YtebpkhemkdgbjaaSWithin
import Derived.IntWalk
namespace Go.Proofs.Ytebpkhemkdgbjaa
open Go.RowKit

theorem grp_gss {h : Nat → Int} {n : Nat} (hg : ∀ k, k < n → 0 ≤ h k ∧ h k < 3) : (∀ g, idx (oh (owl h n)) (owl h n).length g = idx h n g) ∧ butG (memO (owl h n)) B3.none 3 = grp h n 3 := by
  have e : ∀ g, idx (oh (owl h n)) (owl h n).length g = idx h n g := fun g => by
    rw [owl_length]
    exact idx_congr fun k hk => oh_owl hg hk
  refine ⟨e, ?_⟩
  rw [← grp_oh]
  unfold grp
  exact List.filter_congr fun g _ => by rw [e g]
theorem txs_at {w : World} {base : Nat} {ao : Option Addr} {n cap : Nat} {ss : List (List UInt8)} (h : Txs w base (.slice ao n cap) ss) (h0 : 0 < ss.length) : ∃ g, ao = some ⟨g, 0, none⟩ ∧ ∀ k (hk : k < ss.length), w.cell? ⟨g, k, none⟩ = some (.string ⟨(ss[k]).toArray⟩) := by
  obtain ⟨ao', cap', e, hc, hg⟩ := h.shape
  injection e with e1 e2 e3
  subst e1 e3
  obtain ⟨g, rfl⟩ := hg h0
  exact ⟨g, rfl, fun k hk => h.cell k hk⟩
theorem Xv.of_txs {p : Nat → Prop} {w : World} {base : Nat} {ao : Option Addr} {n cap : Nat} {ss : List (List UInt8)} (h : Txs w base (.slice ao n cap) ss) (hp : ∀ x, base ≤ x → x < w.heap.size → p x) : Xv p w ao cap ss := by
  obtain ⟨ao', cap', e, hc, hg⟩ := h.shape
  injection e with e1 e2 e3
  subst e1 e3
  refine ⟨fun h0 => ?_, hc⟩
  obtain ⟨g, rfl⟩ := hg h0
  refine ⟨g, 0, rfl, hp g (Txs.ge h rfl) (Txs.lt h rfl), Txs.lt h rfl, fun i hi => ?_⟩
  rw [Nat.zero_add]
  exact h.cell i hi

set_option maxRecDepth 100000 in
set_option maxHeartbeats 8000000 in
theorem txnTexts_any {w : World} {a1 : Option Addr} {c1 : Nat} {ss : List (List UInt8)} (hN : IsNames w a1 ss ∧ ∀ s ∈ ss, s.length ≤ 140737488355328) (turn groups : Int) :
    Calls Try.prog 7 #[.slice a1 ss.length c1, .int .i64 turn, .int .i64 groups] w fun e w' => e = .returned (.bool true) ∧ Kept (fun _ => True) w w' := by
  have HN : Hid (IsNames w a1 ss) := hN.1
  have HL : Hid (∀ s ∈ ss, s.length ≤ 140737488355328) := hN.2
  clear hN
  obtain ⟨tru, ttx, htt⟩ := tts_some
  have HTT : Hid (Tts tru ttx) := htt
  clear htt
  go_enter Try.func7, Try.ntmps7
  go_upto_block 0 with fail
  go_cut [7, 8] from 22 to 39 (fun v _ wx => ∃ (ao : Option Addr) (cap : Nat) (os : List Oz), v = .slice ao os.length cap ∧ Ov wx ao os ∧ os.length ≤ 4 ∧ (∀ o ∈ os, o.cas.length ≤ 140737488355328) ∧ Kept (fun _ => True) w wx)
  case first =>
    go_wp2_with fail
    go_loopw [7, 8] (fun v t wr => ∃ k : Nat, k ≤ ss.length ∧ k ≤ 4 ∧ t = .int .i64 k ∧ Oo wr w.heap.size v (rds ss k) ∧ Kept (fun _ => True) w wr) (fun _ t _ => 4 - (intOf t).toNat)
    case atStart => exact ⟨0, by omega, by omega, rfl, Oo.nil _ _, Kept.refl _ _⟩
    case round =>
      obtain ⟨k, hk, hk4, rfl, hO, hK⟩ := hrel
      have hrl := rds_length ss k hk
      obtain ⟨oo, oc, hv, hoc, -⟩ := hO.shape
      subst hv
      have HO : Hid (Oo wr w.heap.size (.slice oo (rds ss k).length oc) (rds ss k)) := hO
      have HK : Hid (Kept (fun _ => True) w wr) := hK
      clear hO hK
      by_cases hlt : k < ss.length ∧ k < 4
      · obtain ⟨b, off, rfl, hb, hc⟩ := (HN.out.all HK.out).row (by omega)
        have q1 := hc k hlt.1
        have HT : Hid (rds ss (k + 1) = rds ss k ++ [rd1 ss[k]]) := rds_succ ss k hlt.1
        generalize ss[k] = s at *
        have g1 : (k : Int) < (ss.length : Int) := by omega
        have g2 : (k : Int) < 4 := by omega
        have g0 : (0 : Int) ≤ (k : Int) := by omega
        have HRL : Hid ((rds ss k).length = k) := hrl
        generalize rds ss k = os at *
        clear hc hrl
        go_wp2_with (first
          | (go_at_call 10; (with_reducible refine Calls.mono (read_any s) ?_); rintro e w3 ⟨rfl, k3⟩; have HO3 : Hid (Oo w3 w.heap.size (.slice oo os.length oc) os) := Oo.all HO.out k3; have K3 : Hid (Kept (fun _ => True) w w3) := HK.out.trans k3; clear k3)
          | (at_builtin; refine wpList_append_op rfl _ _ rfl w.heap.size (.slice oo os.length oc) os rfl (Oo.all HO3.out ((Kept.refl _ _).alloc _)) (Nat.le_trans K3.out.size ((Kept.refl (fun _ => True) _).alloc _).size) _ rfl (rd1 s) (0, 0) (heap_alloc_new _ _) (by have := HRL.out; omega) ?_; intro ao' cap' w5 ho5 hg5; have k5 : Kept (fun y => (Value.slice oo os.length oc).ownBlock ≠ some y) w3 w5 := ((Kept.refl _ _).alloc _).trans (grown_kept hg5); have HO5 : Hid (Oo w5 w.heap.size (.slice ao' (os.length + 1) cap') (os ++ [rd1 s])) := ho5; have HK5 : Hid (Kept (fun _ => True) w w5) := K3.out.then k5 (fun y hy _ e => by have := Oo.ge HO3.out e; omega); clear ho5 hg5 k5))
        go_roundw
        case rel => exact ⟨k + 1, by omega, by omega, by go_num, by rw [HT.out]; exact HO5.out, HK5.out⟩
        case measure => simp [intOf]; omega
      · have hex : ¬ (k : Int) < (ss.length : Int) ∨ ((k : Int) < (ss.length : Int) ∧ ¬ (k : Int) < 4) := by omega
        have HRL : Hid ((rds ss k).length = k) := hrl
        clear hrl
        rcases hex with hex | ⟨he1, he2⟩
        · go_wp2_with fail
          go_meet
          exact ⟨oo, oc, _, rfl, HO.out.view, by have := HRL.out; omega, fun o ho => by obtain ⟨s, hs, rfl⟩ := rds_mem ho; exact HL.out s hs, HK.out⟩
        · go_wp2_with fail
          go_meet
          exact ⟨oo, oc, _, rfl, HO.out.view, by have := HRL.out; omega, fun o ho => by obtain ⟨s, hs, rfl⟩ := rds_mem ho; exact HL.out s hs, HK.out⟩
  case rest =>
  obtain ⟨ao0, cap0, os0, rfl, hO0, ho40, hos0, hK0⟩ := hcut
  obtain ⟨w0, hw0⟩ : ∃ x, x = wc := ⟨_, rfl⟩
  subst hw0
  have HO0 : Hid (Ov w0 ao0 os0) := hO0
  have HOS0 : Hid (∀ o ∈ os0, o.cas.length ≤ 140737488355328) := hos0
  have HK0 : Hid (Kept (fun _ => True) w w0) := hK0
  clear hO0 hos0 hK0
  go_upto_if 42 with fail
  go_cut [7] from 40 to 44 (fun v wx => ∃ (ao : Option Addr) (cap : Nat) (os : List Oz), v = .slice ao os.length cap ∧ Ov wx ao os ∧ 0 < os.length ∧ os.length ≤ 4 ∧ (∀ o ∈ os, o.cas.length ≤ 140737488355328) ∧ Kept (fun _ => True) w wx)
  case first =>
    by_cases h0 : os0.length = 0
    · have n0b : ((os0.length : Int) == 0) = true := by simp; exact List.eq_nil_of_length_eq_zero h0
      go_wp2_with (go_at_call 10; (with_reducible refine Calls.mono (read_any [97]) ?_); rintro e w3 ⟨rfl, k3⟩)
      go_meet
      exact ⟨_, 1, [⟨5, [97], [], 0⟩], rfl, Ov.one _ ⟨5, [97], [], 0⟩, by simp, by simp, by simp, HK0.out.trans (k3.alloc _)⟩
    · have n0b : ((os0.length : Int) == 0) = false := by simp; intro q; subst q; exact h0 rfl
      go_wp2_with fail
      go_meet
      exact ⟨_, _, os0, rfl, HO0.out, by omega, ho40, HOS0.out, HK0.out⟩
  case rest =>
  obtain ⟨ao, cap, os, rfl, hO, ho0, ho4, hos, hK⟩ := hcut
  have HO : Hid (Ov wc ao os) := hO
  have HOS : Hid (∀ o ∈ os, o.cas.length ≤ 140737488355328) := hos
  have HK : Hid (Kept (fun _ => True) w wc) := hK
  clear hO hos hK HO0 HOS0 HK0 ho40
  have cw := within_any (w := wc) groups 2 (by omega)
  go_wp2_with (go_at_call 22; (with_reducible refine Calls.mono cw ?_); rintro e w9 ⟨⟨j, hj, rfl⟩, hw⟩; obtain rfl : wc = w9 := hw.symm)
  clear cw
  have cn := new_any (w := wc) (1 + j) (by omega) (by omega)
  rw [show ((1 + j : Nat) : Int) = 1 + (j : Int) by omega] at cn
  have hr := new_rgt (k := j) hj
  have hl := rgt_most (rgt_iff.1 hr).2.2
  generalize newP (1 + j) = ps at *
  have HR : Hid (rgt 1 ps = true) := hr
  clear hr
  go_wp2_with (go_at_call 8; (with_reducible refine Calls.mono cn ?_); rintro e w1 ⟨a3, p3, rfl, hp, k1⟩; have hv := hp.view)
  have HBx : Hid (Bx (w1.alloc (.cells #[.int .i64 1, .slice a3 ps.length p3] 24)) w1.heap.size a3 p3 1 ps) := Bx.made hv
  have HK2 : Hid (Kept (fun _ => True) w (w1.alloc (.cells #[.int .i64 1, .slice a3 ps.length p3] 24))) := HK.out.trans (k1.alloc _)
  have HO2 : Hid (Ov (w1.alloc (.cells #[.int .i64 1, .slice a3 ps.length p3] 24)) ao os) := HO.out.all (k1.alloc _)
  clear hp hv k1 cn HK HO
  generalize w1.alloc (.cells #[.int .i64 1, .slice a3 ps.length p3] 24) = w2 at *
  generalize w1.heap.size = X at *
  have c3 := new_txn (cap := p3) (ep := 1) [116, 120] rfl HBx.out.view HR.out HO2.out HOS.out ho0 ho4 (cm := cap)
  obtain ⟨x0, x1⟩ := HBx.out.cells
  have CS : Hid (∀ W, Kept (fun _ => True) w2 W → Calls Try.prog 33 #[.agg #[.int .i64 1, .slice a3 ps.length p3], .slice ao os.length cap] W fun e w' => ESplitB W.heap.size (hof ps os) os.length W e w') := fun W k => split_new (HBx.out.all k).view HR.out (HO2.out.all k) HOS.out (by omega)
  have hGG : ∀ k, k < os.length → 0 ≤ hof ps os k ∧ hof ps os k < 3 := fun k hk => by
    obtain ⟨g, hg, e⟩ := hof_group (ps := ps) (os := os) hk (rgt_iff.1 HR.out).2.2
    omega
  have HGG : Hid (∀ k, k < os.length → 0 ≤ hof ps os k ∧ hof ps os k < 3) := hGG
  clear hGG
  generalize hof ps os = h at *
  go_wp2_with (go_at_call 9; (with_reducible refine Calls.mono c3 ?_); rintro e w3 ⟨T, ov, tv, rfl, ht3, k3⟩; have HT3 : Hid (Tm w3 w2.heap.size T ov tv (rawT (owl h os.length))) := ht3; have K3 : Hid (Kept (fun _ => True) w2 w3) := k3; have q0 := (HBx.out.all k3).cells.1; have q1 := (HBx.out.all k3).cells.2; have cs := CS.out _ k3; clear ht3 k3 c3)
  clear x0 x1
  go_wp2_with (go_at_call 33; (with_reducible refine Calls.mono cs ?_); rintro e w4 ⟨gv, pv, vs, rfl, hg4, hp4, hl4, hv4, k4⟩; obtain ⟨gp, gc, rfl⟩ := hg4.shape; obtain ⟨pp, pc, rfl⟩ := hp4.shape; have HG4 : Hid (Its w4 w3.heap.size (.slice gp (grp h os.length 3).length gc) (grp h os.length 3)) := hg4; have HP4 : Hid (Sls w4 w3.heap.size (.slice pp vs.length pc) vs) := hp4; have HV4 : Hid (∀ i (h1 : i < vs.length) (h2 : i < (grp h os.length 3).length), Its w4 w3.heap.size vs[i] (idx h os.length (grp h os.length 3)[i])) := hv4; have HL4 : Hid (vs.length = (grp h os.length 3).length) := hl4; have K4 : Hid (Kept (fun _ => True) w3 w4) := k4; have HT4 : Hid (Tm w4 w2.heap.size T ov tv (rawT (owl h os.length))) := HT3.out.all k4; clear hg4 hp4 hv4 hl4 k4)
  clear q0 q1 cs
  have HGn : 0 < (grp h os.length 3).length := grp_some (by omega) HGG.out
  obtain ⟨hix, hbu⟩ := grp_gss HGG.out
  have hGs := gss_of (owl h os.length)
  rw [hbu] at hGs
  have HGs : Hid (Gss (owl h os.length) (grp h os.length 3)) := hGs
  have HIX : Hid (∀ g, idx (oh (owl h os.length)) (owl h os.length).length g = idx h os.length g) := hix
  have HBU : Hid (butG (memO (owl h os.length)) B3.none 3 = grp h os.length 3) := hbu
  have HLn : Hid ((owl h os.length).length = os.length) := owl_length _ _
  have HIm : Hid (∀ g, (idx h os.length g).length ≤ 4 ∧ ∀ x ∈ idx h os.length g, x < 4) := fun g => ⟨Nat.le_trans (idx_most _ _ _) ho4, fun x hx => by have := (idx_mem hx).1; omega⟩
  have HPP : Hid (∀ x, w3.heap.size ≤ x → x ≠ T ∧ tv.ownBlock ≠ some x) := fun x h1 => ⟨fun e => by have := HT3.out.lt; omega, fun e => by have := Txs.lt HT3.out.tx e; omega⟩
  have HPw : Hid (∀ x, x < w.heap.size → x ≠ T ∧ tv.ownBlock ≠ some x) := fun x h1 => ⟨fun e => by have := HT3.out.tb; have := HK2.out.size; omega, fun e => by have := Txs.ge HT3.out.tx e; have := HK2.out.size; omega⟩
  have HKw4 : Hid (Kept (fun _ => True) w w4) := HK2.out.trans (K3.out.trans K4.out)
  have HIT : Hid (∀ k, InvT (owl h os.length) (grp h os.length 3) ttx k 0 (rawT (owl h os.length))) := fun k => InvT.start _ _ _ _ HGn
  have H34 : Hid (w3.heap.size ≤ w4.heap.size) := K4.out.size
  clear hix hbu hGs CS HBx HO2 HOS HGG HT3 K3 K4 HK2
  generalize idx h os.length = ix at *
  generalize grp h os.length 3 = gs at *
  generalize owl h os.length = L at *
  generalize rawT L = z0 at *
  generalize w3.heap.size = b3 at *
  generalize w2.heap.size = b2 at *
  have hg3 := HGs.out.most
  have cw := within_any (w := w4) turn (gs.length - 1) (by omega)
  rw [show ((gs.length - 1 : Nat) : Int) = (gs.length : Int) - 1 by omega] at cw
  rw [show (gs.length : Int) - 1 = wrap64 ((gs.length : Int) - 1) from (IntWalk.wrap64_in _ (by omega)).symm] at cw
  go_wp2_with (go_at_call 22; (with_reducible refine Calls.mono cw ?_); rintro e w9 ⟨⟨k, hk, rfl⟩, hw⟩; obtain rfl : w4 = w9 := hw.symm)
  clear cw
  have hkm : k < gs.length := by omega
  obtain ⟨w5, hw5⟩ : ∃ x, x = w4 := ⟨_, rfl⟩
  subst hw5
  go_loopw [16] (fun t wr => ∃ (i : Nat) (z : Tn), i ≤ gs.length ∧ t = .int .i64 i ∧ Tm wr b2 T ov tv z ∧ InvT L gs ttx k i z ∧ Kept (fun x => x ≠ T ∧ tv.ownBlock ≠ some x) w5 wr) (fun t _ => gs.length - (intOf t).toNat)
  case atStart => exact ⟨0, z0, Nat.zero_le _, rfl, HT4.out, HIT.out k, Kept.refl _ _⟩
  case round =>
  obtain ⟨i, z, hi, rfl, ht, hI, hK⟩ := hrel
  have HT : Hid (Tm wr b2 T ov tv z) := ht
  have HI : Hid (InvT L gs ttx k i z) := hI
  have HK : Hid (Kept (fun x => x ≠ T ∧ tv.ownBlock ≠ some x) w5 wr) := hK
  clear ht hI hK HT4 HIT
  have KW : Hid (Kept (fun _ => True) w wr) := HKw4.out.then HK.out (fun x hx _ => HPw.out x hx)
  by_cases hlt : i < gs.length
  · have g1 : (i : Int) < (gs.length : Int) := by omega
    have g0 : (0 : Int) ≤ (i : Int) := by omega
    obtain ⟨p, hp, hpm⟩ : ∃ p, p = (i + k) % gs.length ∧ p < gs.length := ⟨_, rfl, Nat.mod_lt _ (by omega)⟩
    have hpv : p < vs.length := by rw [HL4.out]; exact hpm
    have p0 : (0 : Int) ≤ (p : Int) := Int.natCast_nonneg _
    have p1 : (p : Int) < (gs.length : Int) := Int.ofNat_lt.2 hpm
    have p2 : (p : Int) < (vs.length : Int) := Int.ofNat_lt.2 hpv
    have h0 : z.oc = 0 := by rw [HI.out.oc, if_neg (Nat.ne_of_lt hlt)]
    have htl : z.told = [] := by unfold Tn.told; rw [h0]; rfl
    have ws : wrap64 ((i : Int) + (k : Int)) = (i : Int) + (k : Int) := IntWalk.wrap64_in _ (by omega)
    have wp : wrap64 (p : Int) = (p : Int) := IntWalk.wrap64_in _ (by omega)
    have hrem : ((i : Int) + (k : Int)).tmod (gs.length : Int) = (p : Int) := by
      rw [show (i : Int) + (k : Int) = ((i + k : Nat) : Int) by omega, hp]
      exact Int.ofNat_tmod _ _
    have n1 : ¬ ((gs.length : Int) = 0) := by omega
    have n2 : ((gs.length : Int) == 0) = false := by simpa using n1
    have n3 : ¬ ((gs.length : Int) = -1) := by omega
    have hG : Its wr b3 (.slice gp gs.length gc) gs := HG4.out.kept HK.out (fun x hx => HPP.out x (HG4.out.ge hx))
    have hP : Sls wr b3 (.slice pp vs.length pc) vs := HP4.out.kept HK.out (fun x hx => HPP.out x (World.ownsRow.lt HP4.out.1 x hx).1)
    obtain ⟨gg, rfl, c0⟩ := hG.at p hpm
    obtain ⟨pg, rfl, c1⟩ := hP.at p hpv
    obtain ⟨io, ic, hsh⟩ := (HV4.out p hpv hpm).shape
    have hIv : Its wr b3 vs[p] (ix gs[p]) := (HV4.out p hpv hpm).kept HK.out (fun x hx => HPP.out x ((HV4.out p hpv hpm).ge hx))
    rw [hsh] at c1 hIv
    have lgg : gg < wr.heap.size := hG.lt rfl
    have lpg : pg < wr.heap.size := (World.ownsRow.lt hP.1 pg rfl).2
    have hst := HI.out.step HGs.out hkm hlt (g := gs[p]) (by rw [← hp, List.getElem?_eq_getElem hpm])
    rw [HIX.out] at hst
    have hx4 := (HIm.out gs[p])
    have HIv : Hid (Its wr b3 (.slice io (ix gs[p]).length ic) (ix gs[p])) := hIv
    have har := HI.out.ar
    have hwy := HI.out.wy
    clear hG hP hIv hsh hp
    generalize gs[p] = g at *
    generalize ix g = ixs at *
    have HST : Hid (InvT L gs ttx k (i + 1) (z.vote (g : Nat) true (ixs.map ttx) 0 0)) := hst
    have HX4 : Hid (ixs.length ≤ 4 ∧ ∀ x ∈ ixs, x < 4) := hx4
    clear hst hx4
    have hxl := HX4.out.1
    obtain ⟨wo, hwo⟩ : ∃ x, x = wr := ⟨_, rfl⟩
    subst hwo
    have HR4 : Hid (∀ W, Kept (fun _ => True) wo W → Calls Try.prog 18 #[.pointer (some ⟨T, 0, none⟩)] W fun e w' => ∃ ro rc, e = .returned (.agg #[.int .i64 0, .slice ro 0 rc, .int .i64 0, .int .i64 0]) ∧ Txs w' W.heap.size (.slice ro 0 rc) [] ∧ Kept (fun _ => True) W w') := fun W kk => by
      have c := reply_any (HT.out.all kk)
      unfold EReply at c
      rw [h0, har, hwy, htl] at c
      exact c
    have HO4 : Hid (∀ W, Kept (fun _ => True) wo W → Calls Try.prog 13 #[.pointer (some ⟨T, 0, none⟩)] W fun e w' => e = .returned (.int .i64 0) ∧ w' = W) := fun W kk => by
      have c := outcome_any (HT.out.all kk)
      rw [h0] at c
      exact c
    clear h0 har hwy htl
    go_wp2_with fail
    clear hrem n1 n2 n3 ws wp
    go_loopw [18, 19] (fun u t wr => ∃ q : Nat, q ≤ ixs.length ∧ t = .int .i64 q ∧ Txs wr wo.heap.size u ((ixs.take q).map ttx) ∧ Kept (fun _ => True) wo wr) (fun _ t _ => ixs.length - (intOf t).toNat)
    case atStart => exact ⟨0, by omega, rfl, Txs.nil _ _, Kept.refl _ _⟩
    case round =>
    obtain ⟨q, hq, rfl, hx, hki⟩ := hrel
    obtain ⟨xo, xc, hv, -, -⟩ := hx.shape
    subst hv
    have hrl : ((ixs.take q).map ttx).length = q := by simp; omega
    have HX : Hid (Txs wr wo.heap.size (.slice xo ((ixs.take q).map ttx).length xc) ((ixs.take q).map ttx)) := hx
    have HKi : Hid (Kept (fun _ => True) wo wr) := hki
    have c0 := (kept_cell hki lgg trivial).trans c0
    have c1 := (kept_cell hki lpg trivial).trans c1
    have lgg := Nat.lt_of_lt_of_le lgg hki.size
    have q0 : (0 : Int) ≤ (q : Int) := by omega
    clear hx hki
    by_cases hlq : q < ixs.length
    · obtain ⟨ib, rfl, c2⟩ := (HIv.out.all HKi.out).at q hlq
      have hx4 := HX4.out.2 _ (List.getElem_mem hlq)
      have HTq : Hid ((ixs.take (q + 1)).map ttx = (ixs.take q).map ttx ++ [ttx ixs[q]]) := by
        show _ = _
        rw [← List.take_append_getElem hlq, List.map_append]
        rfl
      generalize ixs[q] = x at *
      have HRL : Hid (((ixs.take q).map ttx).length = q) := hrl
      generalize (ixs.take q).map ttx = ts at *
      have cv := HTT.out.conv x hx4
      have cp := HTT.out.plus x hx4
      have w48 := wrap48 x (by omega)
      have ws : wrap64 (48 + (x : Int)) = 48 + (x : Int) := IntWalk.wrap64_in _ (by omega)
      have q1 : (q : Int) < (ixs.length : Int) := by omega
      have h2 : Hid (Txs (wr.alloc (.cells #[.string ⟨(ttx x).toArray⟩] 9)) wr.heap.size (.slice (some ⟨wr.heap.size, 0, none⟩) 1 1) [ttx x]) := Txs.made wr wr.heap.size [ttx x] (Nat.le_refl _) (by simp)
      clear hrl hx4
      go_wp2_with (at_builtin; refine wpList_append_texts rfl _ _ rfl wo.heap.size wr.heap.size (.slice xo ts.length xc) (.slice (some ⟨wr.heap.size, 0, none⟩) 1 1) ts [ttx x] rfl (HX.out.kept ((Kept.refl (fun _ => True) _).alloc _) (fun _ _ => trivial)) rfl h2.out (Nat.le_trans HKi.out.size ((Kept.refl (fun _ => True) _).alloc _).size) (by have := HRL.out; simp; omega) ?_; intro ao' cap' w5 ho5 hg5; have k5 : Kept (fun y => (Value.slice xo ts.length xc).ownBlock ≠ some y) wr w5 := ((Kept.refl _ _).alloc _).trans (grown_kept hg5); have HO5 : Hid (Txs w5 wo.heap.size (.slice ao' (ts.length + 1) cap') (ts ++ [ttx x])) := ho5; have HK5 : Hid (Kept (fun _ => True) wo w5) := HKi.out.then k5 (fun y hy _ e => by have := Txs.ge HX.out e; omega); clear ho5 hg5 k5)
      go_roundw
      case rel => exact ⟨q + 1, by omega, by go_num, by rw [HTq.out]; exact HO5.out, HK5.out⟩
      case measure => simp [intOf]; omega
    · have hqe : q = ixs.length := by omega
      have ets : (ixs.take q).map ttx = ixs.map ttx := by rw [hqe, List.take_length]
      rw [ets] at HX ⊢
      have q1 : ¬ (q : Int) < (ixs.length : Int) := by omega
      have CV : Hid (∀ W, Kept (fun _ => True) wr W → Calls Try.prog 12 #[.pointer (some ⟨T, 0, none⟩), .int .i64 (g : Nat), .bool true, .slice xo (ixs.map ttx).length xc, .int .i64 0, .int .i64 0] W fun e w' => EVote T ov tv b2 (z.vote (g : Nat) true (ixs.map ttx) 0 0) W e w') := fun W kk => vote_any (HT.out.all (HKi.out.trans kk)) (g : Nat) true (Xv.of_txs (HX.out.kept kk (fun _ _ => trivial)) (fun y h1 _ => HPP.out y (by have := HK.out.size; have := H34.out; omega))) 0 0
      clear hrl ets
      generalize ixs.map ttx = ts at *
      go_wp2_with (first
        | (go_at_call 13; (with_reducible refine Calls.mono (HO4.out _ HKi.out) ?_); rintro e w8 ⟨rfl, hw⟩; obtain rfl : wr = w8 := hw.symm)
        | (go_at_call 18; (with_reducible refine Calls.mono (HR4.out _ HKi.out) ?_); rintro e w9 ⟨ro, rc, rfl, h9, k9⟩; have K9 : Hid (Kept (fun _ => True) wr w9) := k9; have c9 : Calls Try.prog 17 #[.agg #[.int .i64 0, .slice ro 0 rc, .int .i64 0, .int .i64 0], .agg #[.int .i64 0, .slice none 0 0, .int .i64 0, .int .i64 0]] w9 _ := reply_same (xs := []) h9 (Txs.nil w9 0) (by decide); clear h9 k9)
        | (go_at_call 17; (with_reducible refine Calls.mono c9 ?_); rintro e w10 ⟨rfl, k10⟩; have K10 : Hid (Kept (fun _ => True) wr w10) := K9.out.trans k10; have d0 := (kept_cell K10.out lgg trivial).trans c0; clear k10)
        | (go_at_call 12; (with_reducible refine Calls.mono (CV.out _ K10.out) ?_); rintro e w11 ⟨rfl, h11, k11⟩; have H11 : Hid (Tm w11 b2 T ov tv (z.vote (g : Nat) true ts 0 0)) := h11; have K11 : Hid (Kept (fun x => x ≠ T ∧ tv.ownBlock ≠ some x) w5 w11) := (HK.out.trans ((HKi.out.trans K10.out).mono (fun _ _ _ => trivial))).trans k11; clear h11 k11))
      go_roundw
      case rel => exact ⟨i + 1, _, by omega, by go_num, H11.out, HST.out, K11.out⟩
      case measure => simp [intOf]; omega
  · have hie : i = gs.length := by omega
    have g1 : ¬ (i : Int) < (gs.length : Int) := by omega
    have hI9 := HI.out
    rw [hie] at hI9
    obtain ⟨hoc, htx⟩ := hI9.done HGs.out (fun g hg => HT.out.lt3 g (by rw [hI9.ow]; exact hg)) hkm
    have htl : z.told = (List.range os.length).map ttx := by unfold Tn.told; rw [if_pos hoc, htx, HLn.out]
    have hbg : butG (memO z.ow) z.dn 3 = gs := by rw [hI9.ow, hI9.dn]; exact HBU.out
    have cr : Calls Try.prog 18 #[.pointer (some ⟨T, 0, none⟩)] wr fun e w' => ∃ ro rc, e = .returned (.agg #[.int .i64 1, .slice ro os.length rc, .int .i64 0, .int .i64 0]) ∧ Txs w' wr.heap.size (.slice ro os.length rc) ((List.range os.length).map ttx) ∧ Kept (fun _ => True) wr w' := by
      have c := reply_any HT.out
      unfold EReply at c
      rw [hoc, hI9.ar, hI9.wy, htl] at c
      simp only [List.length_map, List.length_range] at c
      exact c
    have CL : Hid (∀ W, Kept (fun _ => True) wr W → Calls Try.prog 15 #[.pointer (some ⟨T, 0, none⟩)] W fun e w' => ∃ v, e = .returned v ∧ Its w' W.heap.size v gs ∧ Kept (fun _ => True) W w') := fun W kk => by
      have c := left_any_t (HT.out.all kk)
      rw [hbg] at c
      exact c
    clear hI9 hoc htx htl hbg
    go_upto_region 27 with (go_at_call 18; (with_reducible refine Calls.mono cr ?_); rintro e w6 ⟨ro, rc, rfl, hr6, k6⟩)
    clear cr
    have hR := heap_alloc_new w6 (.cells #[.int .i64 1, .slice ro os.length rc, .int .i64 0, .int .i64 0] 45)
    have kR : Kept (fun _ => True) w6 (w6.alloc (.cells #[.int .i64 1, .slice ro os.length rc, .int .i64 0, .int .i64 0] 45)) := (Kept.refl _ _).alloc _
    have HX7 : Hid (Txs _ wr.heap.size (.slice ro os.length rc) ((List.range os.length).map ttx)) := hr6.kept kR (fun _ _ => trivial)
    have HK7 : Hid (Kept (fun _ => True) wr _) := k6.trans kR
    obtain ⟨r0, r1, r2, r3⟩ := rfour_cell hR
    clear hR kR hr6 k6
    generalize w6.alloc (.cells #[.int .i64 1, .slice ro os.length rc, .int .i64 0, .int .i64 0] 45) = w7 at *
    generalize w6.heap.size = R at *
    obtain ⟨wq, hwq⟩ : ∃ x, x = wr := ⟨_, rfl⟩
    subst hwq
    go_wp2_with fail
    go_loopw [21] (fun t wr => ∃ p : Nat, p ≤ os.length ∧ t = .int .i64 p ∧ wr = w7) (fun t _ => os.length - (intOf t).toNat)
    case atStart => exact ⟨0, Nat.zero_le _, rfl, by trivial⟩
    case round =>
    obtain ⟨p, hp, rfl, rfl⟩ := hrel
    have p0 : (0 : Int) ≤ (p : Int) := by omega
    by_cases hlp : p < os.length
    · obtain ⟨rg, rfl, cc⟩ := txs_at HX7.out (by simp; omega)
      have c9 := cc p (by simpa using hlp)
      rw [List.getElem_map, List.getElem_range] at c9
      have hx4 : p < 4 := by omega
      have cv := HTT.out.conv p hx4
      have cp := HTT.out.plus p hx4
      have w48 := wrap48 p (by omega)
      have ws : wrap64 (48 + (p : Int)) = 48 + (p : Int) := IntWalk.wrap64_in _ (by omega)
      have p1 : (p : Int) < (os.length : Int) := by omega
      clear cc
      generalize ttx p = tp at *
      generalize tru p = tq at *
      go_wp2_with fail
      go_roundw
      case rel => exact ⟨p + 1, by omega, by go_num, by trivial⟩
      case measure => simp [intOf]; omega
    · have p1 : ¬ (p : Int) < (os.length : Int) := by omega
      clear r0 r1 r2 r3
      go_wp2_with (first
        | (go_at_call 15; (with_reducible refine Calls.mono (CL.out _ HK7.out) ?_); rintro e w8 ⟨v8, rfl, hv8, k8⟩; obtain ⟨lo, lc, rfl⟩ := Its.shape hv8; have K8 : Hid (Kept (fun _ => True) wq w8) := HK7.out.trans k8; have c9 := isame_any hv8 (HG4.out.kept (HK.out.trans (K8.out.mono (fun _ _ _ => trivial))) (fun x hx => HPP.out x (HG4.out.ge hx))) (by omega); clear hv8 k8)
        | (go_at_call 19; (with_reducible refine Calls.mono c9 ?_); rintro e w9 ⟨rfl, m9, rfl⟩)
        | (go_at_call 20; (with_reducible refine Calls.mono (known_txn _) ?_); rintro e w10 ⟨rfl, k10⟩))
      go_ret
      exact ⟨rfl, KW.out.trans ((K8.out.drewN _).trans k10)⟩

end Go.Proofs.Ytebpkhemkdgbjaa
