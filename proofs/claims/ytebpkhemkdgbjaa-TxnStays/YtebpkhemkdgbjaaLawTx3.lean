/-
  TxnStays.
-/
import Derived.Test.YtebpkhemkdgbjaaYB
import Derived.Test.YtebpkhemkdgbjaaYO
import Derived.Test.YtebpkhemkdgbjaaYAs
import Derived.Test.YtebpkhemkdgbjaaSWithin
import Derived.Test.YtebpkhemkdgbjaaYAbc
import Derived.Test.YtebpkhemkdgbjaaVOrd
namespace Go.Proofs.Ytebpkhemkdgbjaa
open Go.RowKit

set_option maxRecDepth 100000 in
set_option maxHeartbeats 8000000 in
theorem txnStays_any {w : World} {a1 : Option Addr} {c1 : Nat} {ss : List (List UInt8)} (hN : IsNames w a1 ss ∧ ∀ s ∈ ss, s.length ≤ 140737488355328) {a2 : Option Addr} {c2 : Nat} {qs : List Aq} (hQ : IsAskt w a2 qs) :
    Calls Try.prog 5 #[.slice a1 ss.length c1, .slice a2 qs.length c2] w fun e w' => e = .returned (.bool true) ∧ Kept (fun _ => True) w w' := by
  have HN : Hid (IsNames w a1 ss) := hN.1
  have HL : Hid (∀ s ∈ ss, s.length ≤ 140737488355328) := hN.2
  have HQ : Hid (IsAskt w a2 qs) := hQ
  clear hN hQ
  go_enter Try.func5, Try.ntmps5
  go_upto_block 0 with fail
  go_cut [5, 6] from 18 to 35 (fun v _ wx => ∃ (ao : Option Addr) (cap : Nat) (os : List Oz), v = .slice ao os.length cap ∧ Ov wx ao os ∧ os.length ≤ 4 ∧ (∀ o ∈ os, o.cas.length ≤ 140737488355328) ∧ Kept (fun _ => True) w wx)
  case first =>
    go_wp2_with fail
    go_loopw [5, 6] (fun v t wr => ∃ k : Nat, k ≤ ss.length ∧ k ≤ 4 ∧ t = .int .i64 k ∧ Oo wr w.heap.size v (rds ss k) ∧ Kept (fun _ => True) w wr) (fun _ t _ => 4 - (intOf t).toNat)
    case atStart => exact ⟨0, by omega, by omega, rfl, Oo.nil _ _, Kept.refl _ _⟩
    case round =>
      obtain ⟨k, hk, hk4, rfl, hO, hK⟩ := hrel
      have hrl := rds_length ss k hk
      obtain ⟨oo, oc, hv, hoc, -⟩ := hO.shape
      subst hv
      have HO : Hid (Oo wr w.heap.size (.slice oo (rds ss k).length oc) (rds ss k)) := hO
      have HK : Hid (Kept (fun _ => True) w wr) := hK
      clear hO hK
      by_cases hlt : k < ss.length ∧ k < 4
      · obtain ⟨b, off, rfl, hb, hc⟩ := (HN.out.all HK.out).row (by omega)
        have q1 := hc k hlt.1
        have HT : Hid (rds ss (k + 1) = rds ss k ++ [rd1 ss[k]]) := rds_succ ss k hlt.1
        generalize ss[k] = s at *
        have g1 : (k : Int) < (ss.length : Int) := by omega
        have g2 : (k : Int) < 4 := by omega
        have g0 : (0 : Int) ≤ (k : Int) := by omega
        have HRL : Hid ((rds ss k).length = k) := hrl
        generalize rds ss k = os at *
        clear hc hrl
        go_wp2_with (first
          | (go_at_call 10; (with_reducible refine Calls.mono (read_any s) ?_); rintro e w3 ⟨rfl, k3⟩; have HO3 : Hid (Oo w3 w.heap.size (.slice oo os.length oc) os) := Oo.all HO.out k3; have K3 : Hid (Kept (fun _ => True) w w3) := HK.out.trans k3; clear k3)
          | (at_builtin; refine wpList_append_op rfl _ _ rfl w.heap.size (.slice oo os.length oc) os rfl (Oo.all HO3.out ((Kept.refl _ _).alloc _)) (Nat.le_trans K3.out.size ((Kept.refl (fun _ => True) _).alloc _).size) _ rfl (rd1 s) (0, 0) (heap_alloc_new _ _) (by have := HRL.out; omega) ?_; intro ao' cap' w5 ho5 hg5; have k5 : Kept (fun y => (Value.slice oo os.length oc).ownBlock ≠ some y) w3 w5 := ((Kept.refl _ _).alloc _).trans (grown_kept hg5); have HO5 : Hid (Oo w5 w.heap.size (.slice ao' (os.length + 1) cap') (os ++ [rd1 s])) := ho5; have HK5 : Hid (Kept (fun _ => True) w w5) := K3.out.then k5 (fun y hy _ e => by have := Oo.ge HO3.out e; omega); clear ho5 hg5 k5))
        go_roundw
        case rel => exact ⟨k + 1, by omega, by omega, by go_num, by rw [HT.out]; exact HO5.out, HK5.out⟩
        case measure => simp [intOf]; omega
      · have hex : ¬ (k : Int) < (ss.length : Int) ∨ ((k : Int) < (ss.length : Int) ∧ ¬ (k : Int) < 4) := by omega
        have HRL : Hid ((rds ss k).length = k) := hrl
        clear hrl
        rcases hex with hex | ⟨he1, he2⟩
        · go_wp2_with fail
          go_meet
          exact ⟨oo, oc, _, rfl, HO.out.view, by have := HRL.out; omega, fun o ho => by obtain ⟨s, hs, rfl⟩ := rds_mem ho; exact HL.out s hs, HK.out⟩
        · go_wp2_with fail
          go_meet
          exact ⟨oo, oc, _, rfl, HO.out.view, by have := HRL.out; omega, fun o ho => by obtain ⟨s, hs, rfl⟩ := rds_mem ho; exact HL.out s hs, HK.out⟩
  case rest =>
  obtain ⟨ao, cap, os, rfl, hO, ho4, hos, hK⟩ := hcut
  have HO : Hid (Ov wc ao os) := hO
  have HOS : Hid (∀ o ∈ os, o.cas.length ≤ 140737488355328) := hos
  have HK : Hid (Kept (fun _ => True) w wc) := hK
  have cn : Calls Try.prog 8 #[.int .i64 3] wc _ := new_any (w := wc) 3 (by decide) (by decide)
  have hr := new_rgt (k := 2) (by decide)
  have hl := rgt_most (rgt_iff.1 hr).2.2
  simp only [Nat.reduceAdd] at hr hl
  generalize newP 3 = ps at *
  have HR : Hid (rgt 1 ps = true) := hr
  clear hO hos hK hr
  go_wp2_with (go_at_call 8; (with_reducible refine Calls.mono cn ?_); rintro e w1 ⟨a3, p3, rfl, hp, k1⟩; have hv := hp.view)
  have HBx : Hid (Bx (w1.alloc (.cells #[.int .i64 1, .slice a3 ps.length p3] 24)) w1.heap.size a3 p3 1 ps) := Bx.made hv
  have HK2 : Hid (Kept (fun _ => True) w (w1.alloc (.cells #[.int .i64 1, .slice a3 ps.length p3] 24))) := HK.out.trans (k1.alloc _)
  have HO2 : Hid (Ov (w1.alloc (.cells #[.int .i64 1, .slice a3 ps.length p3] 24)) ao os) := HO.out.all (k1.alloc _)
  clear hp hv k1 cn HK HO
  generalize w1.alloc (.cells #[.int .i64 1, .slice a3 ps.length p3] 24) = w2 at *
  generalize w1.heap.size = X at *
  by_cases h0 : os.length = 0
  · have c3 := new_no (w := w2) (cap := p3) (ep := 1) [116, 120] HBx.out.view (by omega) (am := ao) (n := os.length) (cm := cap) (.inr (.inl h0)) (by omega)
    have n0b : ((os.length : Int) == 0) = true := by simp; exact List.eq_nil_of_length_eq_zero h0
    go_wp2_with (first
      | (go_at_call 9; (with_reducible refine Calls.mono c3 ?_); rintro e w3 ⟨rfl, k3⟩)
      | (go_at_call 20; (with_reducible refine Calls.mono (known_txn _) ?_); rintro e w4 ⟨rfl, k4⟩))
    go_ret
    exact ⟨rfl, HK2.out.trans (k3.trans k4)⟩
  · have c3 := new_txn (cap := p3) (ep := 1) [116, 120] rfl HBx.out.view HR.out HO2.out HOS.out (by omega) ho4 (cm := cap)
    have n0b : ((os.length : Int) == 0) = false := by simp; intro q; subst q; exact h0 rfl
    obtain ⟨x0, x1⟩ := HBx.out.cells
    have CS : Hid (∀ W, Kept (fun _ => True) w2 W → Calls Try.prog 33 #[.agg #[.int .i64 1, .slice a3 ps.length p3], .slice ao os.length cap] W fun e w' => ESplitB W.heap.size (hof ps os) os.length W e w') := fun W k => split_new (HBx.out.all k).view HR.out (HO2.out.all k) HOS.out (by omega)
    have HGG : Hid (∀ k, k < os.length → 0 ≤ hof ps os k ∧ hof ps os k < 3) := fun k hk => by
      obtain ⟨g, hg, e⟩ := hof_group (ps := ps) (os := os) hk (rgt_iff.1 HR.out).2.2
      omega
    generalize hof ps os = h at *
    go_wp2_with (go_at_call 9; (with_reducible refine Calls.mono c3 ?_); rintro e w3 ⟨T, ov, tv, rfl, ht3, k3⟩; have HT3 : Hid (Tm w3 w2.heap.size T ov tv (rawT (owl h os.length))) := ht3; have K3 : Hid (Kept (fun _ => True) w2 w3) := k3; have q0 := (HBx.out.all k3).cells.1; have q1 := (HBx.out.all k3).cells.2; have cs := CS.out _ k3; clear ht3 k3 c3)
    clear x0 x1
    go_wp2_with (go_at_call 33; (with_reducible refine Calls.mono cs ?_); rintro e w4 ⟨gv, pv, vs, rfl, hg4, hp4, hl4, hv4, k4⟩; obtain ⟨gp, gc, rfl⟩ := hg4.shape; obtain ⟨pp, pc, rfl⟩ := hp4.shape; have HG4 : Hid (Its w4 w3.heap.size (.slice gp (grp h os.length 3).length gc) (grp h os.length 3)) := hg4; have HP4 : Hid (Sls w4 w3.heap.size (.slice pp vs.length pc) vs) := hp4; have HV4 : Hid (∀ i (h1 : i < vs.length) (h2 : i < (grp h os.length 3).length), Its w4 w3.heap.size vs[i] (idx h os.length (grp h os.length 3)[i])) := hv4; have HL4 : Hid (vs.length = (grp h os.length 3).length) := hl4; have K4 : Hid (Kept (fun _ => True) w3 w4) := k4; have HT4 : Hid (Tm w4 w2.heap.size T ov tv (rawT (owl h os.length))) := HT3.out.all k4; clear hg4 hp4 hv4 hl4 k4)
    clear q0 q1 cs
    have HGn : Hid (0 < (grp h os.length 3).length) := grp_some (by omega) HGG.out
    have HG3 : Hid (∀ g ∈ grp h os.length 3, g < 3 ∧ g ∈ owl h os.length) := fun g hg => grp_owl hg
    have HI4 : Hid (∀ g, (idx h os.length g).length ≤ 4) := fun g => Nat.le_trans (idx_most _ _ _) ho4
    have hgm : (grp h os.length 3).length ≤ 3 := grp_most h os.length 3
    have HPY : Hid (∀ x, w3.heap.size ≤ x → x < w4.heap.size → PY T tv w4.heap.size x) := fun x h1 h2 => ⟨⟨fun e => by have := HT3.out.lt; omega, fun e => by have := Txs.lt HT3.out.tx e; omega⟩, by omega⟩
    have HPw : Hid (∀ x, x < w.heap.size → PY T tv w4.heap.size x) := fun x h1 => ⟨⟨fun e => by have := HT3.out.tb; have := HK2.out.size; omega, fun e => by have := Txs.ge HT3.out.tx e; have := HK2.out.size; omega⟩, by have := HK2.out.size; have := K3.out.size; have := K4.out.size; omega⟩
    have HKw4 : Hid (Kept (fun _ => True) w w4) := HK2.out.trans (K3.out.trans K4.out)
    have HLw4 : Hid (T < w4.heap.size ∧ ∀ x, tv.ownBlock = some x → x < w4.heap.size) := ⟨HT4.out.lt, fun x e => Txs.lt HT4.out.tx e⟩
    clear CS HBx HO2 HOS HGG HT3 K3 K4 HK2
    generalize idx h os.length = ix at *
    generalize grp h os.length 3 = gs at *
    generalize owl h os.length = L at *
    generalize w3.heap.size = b3 at *
    generalize w2.heap.size = b2 at *
    have HY5 : Hid (Ya (w4.alloc (.cells #[.bool false, .bool false, .bool false] 72)) w4.heap.size B3.none) := Ya.made w4
    have HT5 : Hid (Tm (w4.alloc (.cells #[.bool false, .bool false, .bool false] 72)) b2 T ov tv (rawT L)) := HT4.out.all ((Kept.refl _ _).alloc _)
    have HK5 : Hid (Kept (PY T tv w4.heap.size) w4 (w4.alloc (.cells #[.bool false, .bool false, .bool false] 72))) := (Kept.refl _ _).alloc _
    clear HT4
    generalize w4.alloc (.cells #[.bool false, .bool false, .bool false] 72) = w5 at *
    obtain ⟨Y, hY⟩ : ∃ Y, Y = w4.heap.size := ⟨_, rfl⟩
    rw [← hY] at HPY HPw HY5 HK5 ⊢
    have HYe : Hid (Y = w4.heap.size) := hY
    clear hY
    go_loopw [14] (fun t wr => ∃ (i : Nat) (z : Tn) (ys : B3), i ≤ qs.length ∧ i ≤ 30 ∧ t = .int .i64 i ∧ Tm wr b2 T ov tv z ∧ InvS L z ys ∧ Ya wr Y ys ∧ Kept (PY T tv Y) w4 wr) (fun t _ => 30 - (intOf t).toNat)
    case atStart => exact ⟨0, _, _, Nat.zero_le _, by omega, rfl, HT5.out, InvS.start L, HY5.out, HK5.out⟩
    case round =>
    obtain ⟨i, z, ys, hi, hi30, rfl, ht, hI, hY, hK⟩ := hrel
    have HT : Hid (Tm wr b2 T ov tv z) := ht
    have HI : Hid (InvS L z ys) := hI
    have HY : Hid (Ya wr Y ys) := hY
    have HK : Hid (Kept (PY T tv Y) w4 wr) := hK
    clear ht hI hY hK HT5 HY5 HK5
    by_cases hlt : i < qs.length ∧ i < 30
    · have g1 : (i : Int) < (qs.length : Int) := by omega
      have g2 : (i : Int) < 30 := by omega
      have g0 : (0 : Int) ≤ (i : Int) := by omega
      have HLr : Hid (w4.heap.size < wr.heap.size) := by
        have := lt_of_block HY.out
        have := HYe.out
        show _ < _
        omega
      have HPn : Hid (∀ x, wr.heap.size ≤ x → PY T tv Y x) := fun x hx => ⟨⟨fun e => by have := HLw4.out.1; have := HLr.out; omega, fun e => by have := HLw4.out.2 _ e; have := HLr.out; omega⟩, by have := HYe.out; have := HLr.out; omega⟩
      have KW : Hid (Kept (fun _ => True) w wr) := HKw4.out.then HK.out (fun x hx _ => HPw.out x hx)
      have cr := reply_any HT.out
      go_upto_region 18 with (go_at_call 18; (with_reducible refine Calls.mono cr ?_); rintro e w6 ⟨ro, rc, rfl, hr6, k6⟩)
      clear cr
      have hR := heap_alloc_new w6 (.cells #[.int .i64 z.oc, .slice ro z.told.length rc, .int .i64 z.ar, .int .i64 z.wy] 45)
      have kR : Kept (fun _ => True) w6 (w6.alloc (.cells #[.int .i64 z.oc, .slice ro z.told.length rc, .int .i64 z.ar, .int .i64 z.wy] 45)) := (Kept.refl _ _).alloc _
      have HX7 : Hid (Txs _ wr.heap.size (.slice ro z.told.length rc) z.told) := hr6.kept kR (fun _ _ => trivial)
      have HT7 : Hid (Tm _ b2 T ov tv z) := HT.out.all (k6.trans kR)
      have HY7 : Hid (Ya _ Y ys) := HY.out.kept (k6.trans kR) trivial
      have HK7 : Hid (Kept (PY T tv Y) w4 _) := HK.out.trans ((k6.trans kR).mono (fun _ _ _ => trivial))
      have KW7 : Hid (Kept (fun _ => True) w _) := KW.out.trans (k6.trans kR)
      have HR7 : Hid _ := hR
      have HRn : Hid (wr.heap.size ≤ w6.heap.size) := k6.size
      clear hR kR hr6 k6 HT HY HK KW
      generalize w6.alloc (.cells #[.int .i64 z.oc, .slice ro z.told.length rc, .int .i64 z.ar, .int .i64 z.wy] 45) = w7 at *
      generalize w6.heap.size = R at *
      obtain ⟨qb, qo, rfl, hqb0, hqc⟩ := HQ.out.row (by omega)
      obtain ⟨q0, q1, q2, q3, q4, q5, q6⟩ := hqc i hlt.1
      have hqb : qb < w7.heap.size := Nat.lt_of_lt_of_le hqb0 KW7.out.size
      replace q0 := (kept_cell KW7.out hqb0 trivial).trans q0
      replace q1 := (kept_cell KW7.out hqb0 trivial).trans q1
      replace q4 := (kept_cell KW7.out hqb0 trivial).trans q4
      clear hqc q2 q3 q5 q6
      generalize qs[i] = q at *
      obtain ⟨kind, group, ar, wy, yes, fits, ta, tc, tx⟩ := q
      have hgn := HGn.out
      have cw := within_any (w := w7) group (gs.length - 1) (by omega)
      rw [show ((gs.length - 1 : Nat) : Int) = (gs.length : Int) - 1 by omega] at cw
      go_upto_block 4 with (go_at_call 22; (with_reducible refine Calls.mono cw ?_); rintro e w8 ⟨⟨k, hk, rfl⟩, hw⟩; obtain rfl : w7 = w8 := hw.symm)
      clear cw
      have hkg : k < gs.length := by omega
      have hkv : k < vs.length := by have := HL4.out; omega
      have hG7 : Its w7 b3 (.slice gp gs.length gc) gs := HG4.out.kept HK7.out (fun x hx => HPY.out x (HG4.out.ge hx) (by have := HYe.out; have := HG4.out.lt hx; omega))
      have hP7 : Sls w7 b3 (.slice pp vs.length pc) vs := HP4.out.kept HK7.out (fun x hx => HPY.out x (World.ownsRow.lt HP4.out.1 x hx).1 (by have := HYe.out; have := (World.ownsRow.lt HP4.out.1 x hx).2; omega))
      obtain ⟨gg, rfl, c0⟩ := hG7.at k hkg
      obtain ⟨pg, rfl, c1⟩ := hP7.at k hkv
      obtain ⟨io, ic, hsh⟩ := (HV4.out k hkv hkg).shape
      rw [hsh] at c1
      have hg3 := (HG3.out _ (List.getElem_mem hkg)).1
      have hn4 := HI4.out gs[k]
      have HGA : Hid (∀ W, Kept (PY T tv Y) w4 W → ∀ n (hn : n < gs.length), W.cell? ⟨gg, n, none⟩ = some (.int .i64 (gs[n] : Nat))) := fun W kk n hn => by
        obtain ⟨_, e9, c9⟩ := (HG4.out.kept kk (fun x hx => HPY.out x (HG4.out.ge hx) (by have := HYe.out; have := HG4.out.lt hx; omega))).at n hn
        cases e9
        exact c9
      have lgg : gg < w7.heap.size := hG7.lt rfl
      have lpg : pg < w7.heap.size := (World.ownsRow.lt hP7.1 pg rfl).2
      have HNY : Hid (Y ≠ T ∧ tv.ownBlock ≠ some Y ∧ gg ≠ Y ∧ qb ≠ Y) := ⟨fun e => by have := HLw4.out.1; have := HYe.out; omega, fun e => by have := HLw4.out.2 _ e; have := HYe.out; omega, fun e => by have := HG4.out.lt (k := gg) rfl; have := HYe.out; omega, fun e => by have := HKw4.out.size; have := HYe.out; omega⟩
      have HPP : Hid ((gg ≠ T ∧ tv.ownBlock ≠ some gg) ∧ (pg ≠ T ∧ tv.ownBlock ≠ some pg) ∧ (qb ≠ T ∧ tv.ownBlock ≠ some qb)) := ⟨(HPY.out gg (HG4.out.ge rfl) (by have := HYe.out; have := HG4.out.lt (k := gg) rfl; omega)).1, (HPY.out pg (World.ownsRow.lt HP4.out.1 pg rfl).1 (by have := HYe.out; have := (World.ownsRow.lt HP4.out.1 pg rfl).2; omega)).1, (HPw.out qb hqb0).1⟩
      clear hG7 hP7 hsh
      have i1 : (k : Int) < (gs.length : Int) := by omega
      have i2 : (k : Int) < (vs.length : Int) := by omega
      have i0 : (0 : Int) ≤ (k : Int) := by omega
      go_cut [] from 96 to 143 (fun wx => Turned w7 wx b2 T ov tv L z Y)
      case first =>
        clear HL4 HV4 HG3 HI4 HGA
        generalize (ix gs[k]).length = n at *
        generalize gs[k] = g at *
        by_cases hk1 : kind = 1
        · subst hk1
          have M0 : ∀ W, Kept (fun x => x ≠ T ∧ tv.ownBlock ≠ some x) w7 W → W.cell? ⟨gg, k, none⟩ = some (.int .i64 (g : Nat)) := fun W q => (kept_cell q lgg HPP.out.1).trans c0
          have M1 : ∀ W, Kept (fun x => x ≠ T ∧ tv.ownBlock ≠ some x) w7 W → W.cell? ⟨pg, k, none⟩ = some (.slice io n ic) := fun W q => (kept_cell q lpg HPP.out.2.1).trans c1
          have M4 : ∀ W, Kept (fun x => x ≠ T ∧ tv.ownBlock ≠ some x) w7 W → W.cell? ⟨qb, qo + i * 7 + 4, none⟩ = some (.bool yes) := fun W q => (kept_cell q hqb HPP.out.2.2).trans q4
          have hcut : ∀ A w0, (Instr.slice 37 (.slice (some ⟨A, 0, none⟩) 4 4) none (some (.int .i64 (n : Int))) none).run Try.prog w0 = .ok (.slice (some ⟨A, 0, none⟩) n 4) w0 := fun A w0 => cut_texts hn4 w0
          have CV : Hid (∀ W A, Kept (fun _ => True) w7 W → W.heap[A]? = some (.cells #[.string ⟨#[97]⟩, .string ⟨#[98]⟩, .string ⟨#[99]⟩, .string ⟨#[100]⟩] 9 (0, 0)) → w7.heap.size ≤ A → Calls Try.prog 12 #[.pointer (some ⟨T, 0, none⟩), .int .i64 (g : Nat), .bool yes, .slice (some ⟨A, 0, none⟩) n 4, .int .i64 0, .int .i64 30] W fun e w' => e = .returned (.tuple #[]) ∧ Tm w' b2 T ov tv (z.vote (g : Nat) yes (abcd.take n) 0 30) ∧ Tstep T tv W w') := fun W A kk hA hle => vote_abcd (HT7.out.all kk) hA (by have := HT7.out.lt; omega) (fun e => by have := Txs.lt HT7.out.tx e; omega) g yes n hn4 0 30
          go_upto_region 22 with fail
          go_cut [] from 104 to 121 (fun wx => Tm wx b2 T ov tv (z.vote (g : Nat) yes (abcd.take n) 0 30) ∧ Kept (fun x => x ≠ T ∧ tv.ownBlock ≠ some x) w7 wx)
          case first =>
            go_region_held3 (fun W => Kept (fun x => x ≠ T ∧ tv.ownBlock ≠ some x) w7 W) (first | assumption | (repeat (first | assumption | exact Kept.refl _ _ | refine Kept.drew ?_ | refine Kept.alloc ?_ _))) ((go_at_call 12; (with_reducible refine Calls.mono (CV.out _ _ (by first | assumption | (repeat (first | assumption | exact Kept.refl _ _ | refine Kept.drew ?_ | refine Kept.alloc ?_ _))) (by first | exact heap_alloc_new _ _ | exact heap_alloc_drew _ _ | exact heap_drew_alloc _ _) (by first | exact Nat.le_refl _)) ?_); rintro e w9 ⟨rfl, h9, k9⟩; have s9 : Kept (fun x => x ≠ T ∧ tv.ownBlock ≠ some x) w7 w9 := Kept.trans (by first | assumption | (repeat (first | assumption | exact Kept.refl _ _ | refine Kept.drew ?_ | refine Kept.alloc ?_ _))) k9; clear k9))
            all_goals
              go_wp2_with fail
              go_meet
              exact ⟨h9, s9⟩
          case rest =>
            obtain ⟨h9, k9⟩ := hcut
            have HT9 : Hid (Tm wc b2 T ov tv (z.vote (g : Nat) yes (abcd.take n) 0 30)) := h9
            have HY9 : Hid (Ya wc Y ys) := HY7.out.kept k9 ⟨HNY.out.1, HNY.out.2.1⟩
            have HK9 : Hid (Kept (PY T tv Y) w7 wc) := k9.mono (fun _ _ q => q.1)
            have c0 := (kept_cell k9 lgg HPP.out.1).trans c0
            have q4 := (kept_cell k9 hqb HPP.out.2.2).trans q4
            have yc := HY9.out.cell hg3
            have yf := HY9.out.free g
            have lgg := Nat.lt_of_lt_of_le lgg k9.size
            have lqb := Nat.lt_of_lt_of_le hqb k9.size
            have hI := HI.out.vote hg3 yes (abcd.take n) 0 30
            have m0 : (0 : Int) ≤ (g : Int) := by omega
            have m1 : (g : Int) < 3 := by omega
            clear h9 k9 M0 M1 M4 CV hcut c1 q0 q1
            generalize z.vote (g : Nat) yes (abcd.take n) 0 30 = z' at *
            have HI9 : Hid _ := hI
            clear hI
            have ycd : wc.drew.cell? ⟨Y, g, none⟩ = some (.bool (ys.at g)) := yc
            have yfd : wc.drew.frozen? ⟨Y, g, none⟩ = false := yf
            have M0 : ∀ W, Kept (· ≠ Y) wc W → W.cell? ⟨gg, k, none⟩ = some (.int .i64 (g : Nat)) := fun W q => (kept_cell q lgg HNY.out.2.2.1).trans c0
            clear yc yf
            -- 23
            have kd : Kept (fun _ => True) wc wc.drew := (Kept.refl _ _).drew
            have M0 : ∀ W, Kept (fun _ => True) wc W → W.cell? ⟨gg, k, none⟩ = some (.int .i64 (g : Nat)) := fun W q => (kept_cell q lgg trivial).trans c0
            have M4 : ∀ W, Kept (fun _ => True) wc W → W.cell? ⟨qb, qo + i * 7 + 4, none⟩ = some (.bool yes) := fun W q => (kept_cell q lqb trivial).trans q4
            have lyy : Y < wc.heap.size := lt_of_block HY9.out
            cases hyg : ys.at g
            · rw [hyg] at ycd
              rw [hyg, Bool.false_or] at HI9
              have MY : ∀ W, Kept (fun _ => True) wc W → W.cell? ⟨Y, g, none⟩ = some (.bool false) := fun W q => (kept_cell q lyy trivial).trans ycd
              go_upto_region 23 with fail
              refine Gz.begin (fun W => Kept (fun _ => True) wc W) (fun i => decide (i = 18)) (by kernel_rfl) ?_
              refine Gz.take (i := 0) (oi := { dst := some 122, op := Op.move (Operand.tmp 11), type := 39, pos := _, after := #[], guard := none }) (v := ?_) rfl (by kernel_rfl) (by kernel_rfl) (by kernel_rfl) (by kernel_rfl) (fun _ _ _ h => h) (Or.inl ⟨by rfl, ?hy0⟩) kd ?_
              case hy0 => (intro W hSw; (try dsimp only at hSw); go_simp; try with_reducible rfl)
              try simp only [Act.put, List.setIfInBounds_toArray, List.set_cons_zero, List.set_cons_succ]
              refine Gz.take (i := 1) (oi := { dst := some 123, op := Op.move (Operand.tmp 16), type := 3, pos := _, after := #[], guard := none }) (v := ?_) rfl (by kernel_rfl) (by kernel_rfl) (by kernel_rfl) (by kernel_rfl) (fun _ _ _ h => h) (Or.inl ⟨by rfl, ?hy1⟩) kd ?_
              case hy1 => (intro W hSw; (try dsimp only at hSw); go_simp; try with_reducible rfl)
              try simp only [Act.put, List.setIfInBounds_toArray, List.set_cons_zero, List.set_cons_succ]
              refine Gz.take (i := 2) (oi := { dst := some 124, op := Op.indexAddr 39 (Operand.tmp 122) (Operand.tmp 123), type := 0, pos := _, after := #[{ on := 0, ground := Ground.data }, { on := 1, ground := Ground.data }], guard := none }) (v := ?_) rfl (by kernel_rfl) (by kernel_rfl) (by kernel_rfl) (by kernel_rfl) (fun _ _ _ h => h) (Or.inl ⟨by rfl, ?hy2⟩) kd ?_
              case hy2 => (intro W hSw; (try dsimp only at hSw); go_simp; try with_reducible rfl)
              try simp only [Act.put, List.setIfInBounds_toArray, List.set_cons_zero, List.set_cons_succ]
              refine Gz.take (i := 3) (oi := { dst := some 125, op := Op.load 3 (Operand.tmp 124), type := 3, pos := _, after := #[{ on := 2, ground := Ground.data }], guard := none }) (v := ?_) rfl (by kernel_rfl) (by kernel_rfl) (by kernel_rfl) (by kernel_rfl) (fun _ _ _ h => h) (Or.inl ⟨by rfl, ?hy3⟩) kd ?_
              case hy3 => (intro W hSw; (try dsimp only at hSw); go_simp; try with_reducible rfl)
              try simp only [Act.put, List.setIfInBounds_toArray, List.set_cons_zero, List.set_cons_succ]
              refine Gz.take (i := 4) (oi := { dst := some 126, op := Op.move (Operand.tmp 11), type := 39, pos := _, after := #[], guard := none }) (v := ?_) rfl (by kernel_rfl) (by kernel_rfl) (by kernel_rfl) (by kernel_rfl) (fun _ _ _ h => h) (Or.inl ⟨by rfl, ?hy4⟩) kd ?_
              case hy4 => (intro W hSw; (try dsimp only at hSw); go_simp; try with_reducible rfl)
              try simp only [Act.put, List.setIfInBounds_toArray, List.set_cons_zero, List.set_cons_succ]
              refine Gz.take (i := 5) (oi := { dst := some 127, op := Op.move (Operand.tmp 16), type := 3, pos := _, after := #[], guard := none }) (v := ?_) rfl (by kernel_rfl) (by kernel_rfl) (by kernel_rfl) (by kernel_rfl) (fun _ _ _ h => h) (Or.inl ⟨by rfl, ?hy5⟩) kd ?_
              case hy5 => (intro W hSw; (try dsimp only at hSw); go_simp; try with_reducible rfl)
              try simp only [Act.put, List.setIfInBounds_toArray, List.set_cons_zero, List.set_cons_succ]
              refine Gz.take (i := 6) (oi := { dst := some 128, op := Op.indexAddr 39 (Operand.tmp 126) (Operand.tmp 127), type := 0, pos := _, after := #[{ on := 4, ground := Ground.data }, { on := 5, ground := Ground.data }], guard := none }) (v := ?_) rfl (by kernel_rfl) (by kernel_rfl) (by kernel_rfl) (by kernel_rfl) (fun _ _ _ h => h) (Or.inl ⟨by rfl, ?hy6⟩) kd ?_
              case hy6 => (intro W hSw; (try dsimp only at hSw); go_simp; try with_reducible rfl)
              try simp only [Act.put, List.setIfInBounds_toArray, List.set_cons_zero, List.set_cons_succ]
              refine Gz.take (i := 7) (oi := { dst := some 129, op := Op.load 3 (Operand.tmp 128), type := 3, pos := _, after := #[{ on := 6, ground := Ground.data }], guard := none }) (v := ?_) rfl (by kernel_rfl) (by kernel_rfl) (by kernel_rfl) (by kernel_rfl) (fun _ _ _ h => h) (Or.inl ⟨by rfl, ?hy7⟩) kd ?_
              case hy7 => (intro W hSw; (try dsimp only at hSw); go_simp; try with_reducible rfl)
              try simp only [Act.put, List.setIfInBounds_toArray, List.set_cons_zero, List.set_cons_succ]
              refine Gz.take (i := 8) (oi := { dst := some 130, op := Op.indexAddr 72 (Operand.tmp 13) (Operand.tmp 129), type := 0, pos := _, after := #[{ on := 7, ground := Ground.data }], guard := none }) (v := ?_) rfl (by kernel_rfl) (by kernel_rfl) (by kernel_rfl) (by kernel_rfl) (fun _ _ _ h => h) (Or.inl ⟨by rfl, ?hy8⟩) kd ?_
              case hy8 => (intro W hSw; (try dsimp only at hSw); go_simp; try with_reducible rfl)
              try simp only [Act.put, List.setIfInBounds_toArray, List.set_cons_zero, List.set_cons_succ]
              refine Gz.take (i := 9) (oi := { dst := some 131, op := Op.load 4 (Operand.tmp 130), type := 4, pos := _, after := #[{ on := 8, ground := Ground.data }], guard := none }) (v := ?_) rfl (by kernel_rfl) (by kernel_rfl) (by kernel_rfl) (by kernel_rfl) (fun _ _ _ h => h) (Or.inl ⟨by rfl, ?hy9⟩) kd ?_
              case hy9 => (intro W hSw; (try dsimp only at hSw); go_simp; try with_reducible rfl)
              try simp only [Act.put, List.setIfInBounds_toArray, List.set_cons_zero, List.set_cons_succ]
              refine Gz.take (i := 10) (oi := { dst := some 132, op := Op.move (Operand.tmp 131), type := 4, pos := _, after := #[{ on := 9, ground := Ground.data }], guard := none }) (v := ?_) rfl (by kernel_rfl) (by kernel_rfl) (by kernel_rfl) (by kernel_rfl) (fun _ _ _ h => h) (Or.inl ⟨by rfl, ?hy10⟩) kd ?_
              case hy10 => (intro W hSw; (try dsimp only at hSw); go_simp; try with_reducible rfl)
              try simp only [Act.put, List.setIfInBounds_toArray, List.set_cons_zero, List.set_cons_succ]
              refine Gz.take (i := 11) (oi := { dst := some 133, op := Op.move (Operand.tmp 1), type := 49, pos := _, after := #[{ on := 10, ground := Ground.guard }], guard := some (10, false) }) (v := ?_) rfl (by kernel_rfl) (by kernel_rfl) (by kernel_rfl) (by kernel_rfl) (fun _ _ _ h => h) (Or.inl ⟨by rfl, ?hy11⟩) kd ?_
              case hy11 => (intro W hSw; (try dsimp only at hSw); go_simp; try with_reducible rfl)
              try simp only [Act.put, List.setIfInBounds_toArray, List.set_cons_zero, List.set_cons_succ]
              refine Gz.take (i := 12) (oi := { dst := some 134, op := Op.move (Operand.tmp 14), type := 3, pos := _, after := #[{ on := 10, ground := Ground.guard }], guard := some (10, false) }) (v := ?_) rfl (by kernel_rfl) (by kernel_rfl) (by kernel_rfl) (by kernel_rfl) (fun _ _ _ h => h) (Or.inl ⟨by rfl, ?hy12⟩) kd ?_
              case hy12 => (intro W hSw; (try dsimp only at hSw); go_simp; try with_reducible rfl)
              try simp only [Act.put, List.setIfInBounds_toArray, List.set_cons_zero, List.set_cons_succ]
              refine Gz.take (i := 13) (oi := { dst := some 135, op := Op.indexAddr 49 (Operand.tmp 133) (Operand.tmp 134), type := 0, pos := _, after := #[{ on := 11, ground := Ground.data }, { on := 12, ground := Ground.data }, { on := 10, ground := Ground.guard }], guard := some (10, false) }) (v := ?_) rfl (by kernel_rfl) (by kernel_rfl) (by kernel_rfl) (by kernel_rfl) (fun _ _ _ h => h) (Or.inl ⟨by rfl, ?hy13⟩) kd ?_
              case hy13 => (intro W hSw; (try dsimp only at hSw); go_simp; try with_reducible rfl)
              try simp only [Act.put, List.setIfInBounds_toArray, List.set_cons_zero, List.set_cons_succ]
              refine Gz.take (i := 14) (oi := { dst := some 136, op := Op.fieldAddr 66 (Operand.tmp 135) 4, type := 0, pos := _, after := #[{ on := 13, ground := Ground.data }, { on := 10, ground := Ground.guard }], guard := some (10, false) }) (v := ?_) rfl (by kernel_rfl) (by kernel_rfl) (by kernel_rfl) (by kernel_rfl) (fun _ _ _ h => h) (Or.inl ⟨by rfl, ?hy14⟩) kd ?_
              case hy14 => (intro W hSw; (try dsimp only at hSw); go_simp; try with_reducible rfl)
              try simp only [Act.put, List.setIfInBounds_toArray, List.set_cons_zero, List.set_cons_succ]
              refine Gz.take (i := 15) (oi := { dst := some 137, op := Op.load 4 (Operand.tmp 136), type := 4, pos := _, after := #[{ on := 14, ground := Ground.data }, { on := 10, ground := Ground.guard }], guard := some (10, false) }) (v := ?_) rfl (by kernel_rfl) (by kernel_rfl) (by kernel_rfl) (by kernel_rfl) (fun _ _ _ h => h) (Or.inl ⟨by rfl, ?hy15⟩) kd ?_
              case hy15 => (intro W hSw; (try dsimp only at hSw); go_simp; try with_reducible rfl)
              try simp only [Act.put, List.setIfInBounds_toArray, List.set_cons_zero, List.set_cons_succ]
              refine Gz.take (i := 16) (oi := { dst := some 138, op := Op.pick (Operand.tmp 132) (Operand.const (Value.bool true)) (Operand.tmp 137), type := 4, pos := _, after := #[{ on := 10, ground := Ground.data }, { on := 15, ground := Ground.data }], guard := none }) (v := ?_) rfl (by kernel_rfl) (by kernel_rfl) (by kernel_rfl) (by kernel_rfl) (fun _ _ _ h => h) (Or.inl ⟨by rfl, ?hy16⟩) kd ?_
              case hy16 => (intro W hSw; (try dsimp only at hSw); go_simp; try with_reducible rfl)
              try simp only [Act.put, List.setIfInBounds_toArray, List.set_cons_zero, List.set_cons_succ]
              refine Gz.take (i := 17) (oi := { dst := some 139, op := Op.indexAddr 72 (Operand.tmp 13) (Operand.tmp 125), type := 0, pos := _, after := #[{ on := 3, ground := Ground.data }, { on := 0, ground := Ground.phase }, { on := 1, ground := Ground.phase }, { on := 2, ground := Ground.phase }, { on := 3, ground := Ground.phase }, { on := 4, ground := Ground.phase }, { on := 5, ground := Ground.phase }, { on := 6, ground := Ground.phase }, { on := 7, ground := Ground.phase }, { on := 8, ground := Ground.phase }, { on := 9, ground := Ground.phase }, { on := 10, ground := Ground.phase }, { on := 11, ground := Ground.phase }, { on := 12, ground := Ground.phase }, { on := 13, ground := Ground.phase }, { on := 14, ground := Ground.phase }, { on := 15, ground := Ground.phase }, { on := 16, ground := Ground.phase }], guard := none }) (v := ?_) rfl (by kernel_rfl) (by kernel_rfl) (by kernel_rfl) (by kernel_rfl) (fun _ _ _ h => h) (Or.inl ⟨by rfl, ?hy17⟩) kd ?_
              case hy17 => (intro W hSw; (try dsimp only at hSw); go_simp; try with_reducible rfl)
              try simp only [Act.put, List.setIfInBounds_toArray, List.set_cons_zero, List.set_cons_succ]
              refine Gz.one (i := 18) (o := { dst := none, op := Op.store 4 (Operand.tmp 139) (Operand.tmp 138), type := 0, pos := _, after := #[{ on := 17, ground := Ground.data }, { on := 16, ground := Ground.data }, { on := 10, ground := Ground.chain }, { on := 0, ground := Ground.phase }, { on := 1, ground := Ground.phase }, { on := 2, ground := Ground.phase }, { on := 3, ground := Ground.phase }, { on := 4, ground := Ground.phase }, { on := 5, ground := Ground.phase }, { on := 6, ground := Ground.phase }, { on := 7, ground := Ground.phase }, { on := 8, ground := Ground.phase }, { on := 9, ground := Ground.phase }, { on := 10, ground := Ground.phase }, { on := 11, ground := Ground.phase }, { on := 12, ground := Ground.phase }, { on := 13, ground := Ground.phase }, { on := 14, ground := Ground.phase }, { on := 15, ground := Ground.phase }, { on := 16, ground := Ground.phase }], guard := none }) (by kernel_rfl) rfl (fun K hK => ?_)
              go_simp
              refine hK.out _ _ (fun hEarly => by cases hEarly) ?_
              clear hK K
              try simp only [Act.put, List.setIfInBounds_toArray, List.set_cons_zero, List.set_cons_succ]
              refine Gz.done (by kernel_rfl) ?_ _
              go_wp2_with fail
              go_meet
              exact turned_yes HT9.out HI9.out HY9.out HK9.out hg3 HNY.out.1 HNY.out.2.1 (by first | exact .inl rfl | exact .inr rfl)
            · rw [hyg] at ycd
              rw [hyg, Bool.true_or] at HI9
              have MY : ∀ W, Kept (fun _ => True) wc W → W.cell? ⟨Y, g, none⟩ = some (.bool true) := fun W q => (kept_cell q lyy trivial).trans ycd
              go_upto_region 23 with fail
              refine Gz.begin (fun W => Kept (fun _ => True) wc W) (fun i => decide (i = 18)) (by kernel_rfl) ?_
              refine Gz.take (i := 0) (oi := { dst := some 122, op := Op.move (Operand.tmp 11), type := 39, pos := _, after := #[], guard := none }) (v := ?_) rfl (by kernel_rfl) (by kernel_rfl) (by kernel_rfl) (by kernel_rfl) (fun _ _ _ h => h) (Or.inl ⟨by rfl, ?hy0⟩) kd ?_
              case hy0 => (intro W hSw; (try dsimp only at hSw); go_simp; try with_reducible rfl)
              try simp only [Act.put, List.setIfInBounds_toArray, List.set_cons_zero, List.set_cons_succ]
              refine Gz.take (i := 1) (oi := { dst := some 123, op := Op.move (Operand.tmp 16), type := 3, pos := _, after := #[], guard := none }) (v := ?_) rfl (by kernel_rfl) (by kernel_rfl) (by kernel_rfl) (by kernel_rfl) (fun _ _ _ h => h) (Or.inl ⟨by rfl, ?hy1⟩) kd ?_
              case hy1 => (intro W hSw; (try dsimp only at hSw); go_simp; try with_reducible rfl)
              try simp only [Act.put, List.setIfInBounds_toArray, List.set_cons_zero, List.set_cons_succ]
              refine Gz.take (i := 2) (oi := { dst := some 124, op := Op.indexAddr 39 (Operand.tmp 122) (Operand.tmp 123), type := 0, pos := _, after := #[{ on := 0, ground := Ground.data }, { on := 1, ground := Ground.data }], guard := none }) (v := ?_) rfl (by kernel_rfl) (by kernel_rfl) (by kernel_rfl) (by kernel_rfl) (fun _ _ _ h => h) (Or.inl ⟨by rfl, ?hy2⟩) kd ?_
              case hy2 => (intro W hSw; (try dsimp only at hSw); go_simp; try with_reducible rfl)
              try simp only [Act.put, List.setIfInBounds_toArray, List.set_cons_zero, List.set_cons_succ]
              refine Gz.take (i := 3) (oi := { dst := some 125, op := Op.load 3 (Operand.tmp 124), type := 3, pos := _, after := #[{ on := 2, ground := Ground.data }], guard := none }) (v := ?_) rfl (by kernel_rfl) (by kernel_rfl) (by kernel_rfl) (by kernel_rfl) (fun _ _ _ h => h) (Or.inl ⟨by rfl, ?hy3⟩) kd ?_
              case hy3 => (intro W hSw; (try dsimp only at hSw); go_simp; try with_reducible rfl)
              try simp only [Act.put, List.setIfInBounds_toArray, List.set_cons_zero, List.set_cons_succ]
              refine Gz.take (i := 4) (oi := { dst := some 126, op := Op.move (Operand.tmp 11), type := 39, pos := _, after := #[], guard := none }) (v := ?_) rfl (by kernel_rfl) (by kernel_rfl) (by kernel_rfl) (by kernel_rfl) (fun _ _ _ h => h) (Or.inl ⟨by rfl, ?hy4⟩) kd ?_
              case hy4 => (intro W hSw; (try dsimp only at hSw); go_simp; try with_reducible rfl)
              try simp only [Act.put, List.setIfInBounds_toArray, List.set_cons_zero, List.set_cons_succ]
              refine Gz.take (i := 5) (oi := { dst := some 127, op := Op.move (Operand.tmp 16), type := 3, pos := _, after := #[], guard := none }) (v := ?_) rfl (by kernel_rfl) (by kernel_rfl) (by kernel_rfl) (by kernel_rfl) (fun _ _ _ h => h) (Or.inl ⟨by rfl, ?hy5⟩) kd ?_
              case hy5 => (intro W hSw; (try dsimp only at hSw); go_simp; try with_reducible rfl)
              try simp only [Act.put, List.setIfInBounds_toArray, List.set_cons_zero, List.set_cons_succ]
              refine Gz.take (i := 6) (oi := { dst := some 128, op := Op.indexAddr 39 (Operand.tmp 126) (Operand.tmp 127), type := 0, pos := _, after := #[{ on := 4, ground := Ground.data }, { on := 5, ground := Ground.data }], guard := none }) (v := ?_) rfl (by kernel_rfl) (by kernel_rfl) (by kernel_rfl) (by kernel_rfl) (fun _ _ _ h => h) (Or.inl ⟨by rfl, ?hy6⟩) kd ?_
              case hy6 => (intro W hSw; (try dsimp only at hSw); go_simp; try with_reducible rfl)
              try simp only [Act.put, List.setIfInBounds_toArray, List.set_cons_zero, List.set_cons_succ]
              refine Gz.take (i := 7) (oi := { dst := some 129, op := Op.load 3 (Operand.tmp 128), type := 3, pos := _, after := #[{ on := 6, ground := Ground.data }], guard := none }) (v := ?_) rfl (by kernel_rfl) (by kernel_rfl) (by kernel_rfl) (by kernel_rfl) (fun _ _ _ h => h) (Or.inl ⟨by rfl, ?hy7⟩) kd ?_
              case hy7 => (intro W hSw; (try dsimp only at hSw); go_simp; try with_reducible rfl)
              try simp only [Act.put, List.setIfInBounds_toArray, List.set_cons_zero, List.set_cons_succ]
              refine Gz.take (i := 8) (oi := { dst := some 130, op := Op.indexAddr 72 (Operand.tmp 13) (Operand.tmp 129), type := 0, pos := _, after := #[{ on := 7, ground := Ground.data }], guard := none }) (v := ?_) rfl (by kernel_rfl) (by kernel_rfl) (by kernel_rfl) (by kernel_rfl) (fun _ _ _ h => h) (Or.inl ⟨by rfl, ?hy8⟩) kd ?_
              case hy8 => (intro W hSw; (try dsimp only at hSw); go_simp; try with_reducible rfl)
              try simp only [Act.put, List.setIfInBounds_toArray, List.set_cons_zero, List.set_cons_succ]
              refine Gz.take (i := 9) (oi := { dst := some 131, op := Op.load 4 (Operand.tmp 130), type := 4, pos := _, after := #[{ on := 8, ground := Ground.data }], guard := none }) (v := ?_) rfl (by kernel_rfl) (by kernel_rfl) (by kernel_rfl) (by kernel_rfl) (fun _ _ _ h => h) (Or.inl ⟨by rfl, ?hy9⟩) kd ?_
              case hy9 => (intro W hSw; (try dsimp only at hSw); go_simp; try with_reducible rfl)
              try simp only [Act.put, List.setIfInBounds_toArray, List.set_cons_zero, List.set_cons_succ]
              refine Gz.take (i := 10) (oi := { dst := some 132, op := Op.move (Operand.tmp 131), type := 4, pos := _, after := #[{ on := 9, ground := Ground.data }], guard := none }) (v := ?_) rfl (by kernel_rfl) (by kernel_rfl) (by kernel_rfl) (by kernel_rfl) (fun _ _ _ h => h) (Or.inl ⟨by rfl, ?hy10⟩) kd ?_
              case hy10 => (intro W hSw; (try dsimp only at hSw); go_simp; try with_reducible rfl)
              try simp only [Act.put, List.setIfInBounds_toArray, List.set_cons_zero, List.set_cons_succ]
              refine Gz.take (i := 11) (oi := { dst := some 133, op := Op.move (Operand.tmp 1), type := 49, pos := _, after := #[{ on := 10, ground := Ground.guard }], guard := some (10, false) }) (v := undef) rfl (by kernel_rfl) (by kernel_rfl) (by kernel_rfl) (by kernel_rfl) (fun _ _ _ h => h) (Or.inr ⟨by rfl, rfl⟩) kd ?_
              try simp only [Act.put, List.setIfInBounds_toArray, List.set_cons_zero, List.set_cons_succ]
              refine Gz.take (i := 12) (oi := { dst := some 134, op := Op.move (Operand.tmp 14), type := 3, pos := _, after := #[{ on := 10, ground := Ground.guard }], guard := some (10, false) }) (v := undef) rfl (by kernel_rfl) (by kernel_rfl) (by kernel_rfl) (by kernel_rfl) (fun _ _ _ h => h) (Or.inr ⟨by rfl, rfl⟩) kd ?_
              try simp only [Act.put, List.setIfInBounds_toArray, List.set_cons_zero, List.set_cons_succ]
              refine Gz.take (i := 13) (oi := { dst := some 135, op := Op.indexAddr 49 (Operand.tmp 133) (Operand.tmp 134), type := 0, pos := _, after := #[{ on := 11, ground := Ground.data }, { on := 12, ground := Ground.data }, { on := 10, ground := Ground.guard }], guard := some (10, false) }) (v := undef) rfl (by kernel_rfl) (by kernel_rfl) (by kernel_rfl) (by kernel_rfl) (fun _ _ _ h => h) (Or.inr ⟨by rfl, rfl⟩) kd ?_
              try simp only [Act.put, List.setIfInBounds_toArray, List.set_cons_zero, List.set_cons_succ]
              refine Gz.take (i := 14) (oi := { dst := some 136, op := Op.fieldAddr 66 (Operand.tmp 135) 4, type := 0, pos := _, after := #[{ on := 13, ground := Ground.data }, { on := 10, ground := Ground.guard }], guard := some (10, false) }) (v := undef) rfl (by kernel_rfl) (by kernel_rfl) (by kernel_rfl) (by kernel_rfl) (fun _ _ _ h => h) (Or.inr ⟨by rfl, rfl⟩) kd ?_
              try simp only [Act.put, List.setIfInBounds_toArray, List.set_cons_zero, List.set_cons_succ]
              refine Gz.take (i := 15) (oi := { dst := some 137, op := Op.load 4 (Operand.tmp 136), type := 4, pos := _, after := #[{ on := 14, ground := Ground.data }, { on := 10, ground := Ground.guard }], guard := some (10, false) }) (v := undef) rfl (by kernel_rfl) (by kernel_rfl) (by kernel_rfl) (by kernel_rfl) (fun _ _ _ h => h) (Or.inr ⟨by rfl, rfl⟩) kd ?_
              try simp only [Act.put, List.setIfInBounds_toArray, List.set_cons_zero, List.set_cons_succ]
              refine Gz.take (i := 16) (oi := { dst := some 138, op := Op.pick (Operand.tmp 132) (Operand.const (Value.bool true)) (Operand.tmp 137), type := 4, pos := _, after := #[{ on := 10, ground := Ground.data }, { on := 15, ground := Ground.data }], guard := none }) (v := ?_) rfl (by kernel_rfl) (by kernel_rfl) (by kernel_rfl) (by kernel_rfl) (fun _ _ _ h => h) (Or.inl ⟨by rfl, ?hy16⟩) kd ?_
              case hy16 => (intro W hSw; (try dsimp only at hSw); go_simp; try with_reducible rfl)
              try simp only [Act.put, List.setIfInBounds_toArray, List.set_cons_zero, List.set_cons_succ]
              refine Gz.take (i := 17) (oi := { dst := some 139, op := Op.indexAddr 72 (Operand.tmp 13) (Operand.tmp 125), type := 0, pos := _, after := #[{ on := 3, ground := Ground.data }, { on := 0, ground := Ground.phase }, { on := 1, ground := Ground.phase }, { on := 2, ground := Ground.phase }, { on := 3, ground := Ground.phase }, { on := 4, ground := Ground.phase }, { on := 5, ground := Ground.phase }, { on := 6, ground := Ground.phase }, { on := 7, ground := Ground.phase }, { on := 8, ground := Ground.phase }, { on := 9, ground := Ground.phase }, { on := 10, ground := Ground.phase }, { on := 11, ground := Ground.phase }, { on := 12, ground := Ground.phase }, { on := 13, ground := Ground.phase }, { on := 14, ground := Ground.phase }, { on := 15, ground := Ground.phase }, { on := 16, ground := Ground.phase }], guard := none }) (v := ?_) rfl (by kernel_rfl) (by kernel_rfl) (by kernel_rfl) (by kernel_rfl) (fun _ _ _ h => h) (Or.inl ⟨by rfl, ?hy17⟩) kd ?_
              case hy17 => (intro W hSw; (try dsimp only at hSw); go_simp; try with_reducible rfl)
              try simp only [Act.put, List.setIfInBounds_toArray, List.set_cons_zero, List.set_cons_succ]
              refine Gz.one (i := 18) (o := { dst := none, op := Op.store 4 (Operand.tmp 139) (Operand.tmp 138), type := 0, pos := _, after := #[{ on := 17, ground := Ground.data }, { on := 16, ground := Ground.data }, { on := 10, ground := Ground.chain }, { on := 0, ground := Ground.phase }, { on := 1, ground := Ground.phase }, { on := 2, ground := Ground.phase }, { on := 3, ground := Ground.phase }, { on := 4, ground := Ground.phase }, { on := 5, ground := Ground.phase }, { on := 6, ground := Ground.phase }, { on := 7, ground := Ground.phase }, { on := 8, ground := Ground.phase }, { on := 9, ground := Ground.phase }, { on := 10, ground := Ground.phase }, { on := 11, ground := Ground.phase }, { on := 12, ground := Ground.phase }, { on := 13, ground := Ground.phase }, { on := 14, ground := Ground.phase }, { on := 15, ground := Ground.phase }, { on := 16, ground := Ground.phase }], guard := none }) (by kernel_rfl) rfl (fun K hK => ?_)
              go_simp
              refine hK.out _ _ (fun hEarly => by cases hEarly) ?_
              clear hK K
              try simp only [Act.put, List.setIfInBounds_toArray, List.set_cons_zero, List.set_cons_succ]
              refine Gz.done (by kernel_rfl) ?_ _
              go_wp2_with fail
              go_meet
              exact turned_yes HT9.out HI9.out HY9.out HK9.out hg3 HNY.out.1 HNY.out.2.1 (by first | exact .inl rfl | exact .inr rfl)
        · have e1 : (kind == 1) = false := by simpa using hk1
          by_cases hk2 : kind = 2
          · subst hk2
            have cl := late_any HT7.out
            go_wp2_with (go_at_call 14; (with_reducible refine Calls.mono cl ?_); rintro e w9 ⟨rfl, h9, k9⟩)
            go_meet
            exact ⟨z.late, ys, h9, HI.out.late.1, HI.out.late.2, HY7.out.kept k9 ⟨HNY.out.1, HNY.out.2.1⟩, k9.mono (fun _ _ q => q.1)⟩
          · have e2 : (kind == 2) = false := by simpa using hk2
            have cl := ack_any HT7.out (g : Nat)
            go_wp2_with (go_at_call 11; (with_reducible refine Calls.mono cl ?_); rintro e w9 ⟨rfl, _, rfl, h9, k9⟩)
            go_meet
            exact ⟨z.ack (g : Nat), ys, h9, (HI.out.ack _).1, fun _ => (HI.out.ack _).2, HY7.out.kept k9 ⟨HNY.out.1, HNY.out.2.1⟩, k9.mono (fun _ _ q => q.1)⟩
      case rest =>
        obtain ⟨z', ys', ht8, hI8, hA8, hY8, hK8⟩ := hcut
        have HT8 : Hid (Tm wc b2 T ov tv z') := ht8
        have HI8 : Hid (InvS L z' ys') := hI8
        have HA8 : Hid (z.oc ≠ 0 → Alike z z') := hA8
        have HY8 : Hid (Ya wc Y ys') := hY8
        have HKx : Hid (Kept (PY T tv Y) w4 wc) := HK7.out.trans hK8
        have HR8 : Hid (wc.heap[R]? = _) := (hK8.block _ (lt_of_block HR7.out) (HPn.out R HRn.out)).trans HR7.out
        have HX8 : Hid (Txs wc wr.heap.size (.slice ro z.told.length rc) z.told) := HX7.out.kept hK8 (fun x hx => HPn.out x (Txs.ge HX7.out hx))
        clear ht8 hI8 hA8 hY8 hK8 HT7 HY7 HK7 HR7 HX7 HI HPP HNY lgg lpg q0 q1 q4 c0 c1 hqb
        obtain ⟨r0, r1, r2, r3⟩ := rfour_cell HR8.out
        clear KW7 HRn
        obtain ⟨w8, hw8⟩ : ∃ x, x = wc := ⟨_, rfl⟩
        subst hw8
        go_upto_region 26 with fail
        go_cut [153] from 144 to 152 (fun t wx => t = .bool false ∧ Kept (fun _ => True) w8 wx)
        case first =>
          clear HGA HKx HY8
          by_cases hz : z.oc = 0
          · rw [hz] at r0
            clear r1 r2 r3 HR8 HX8
            go_quiet (fail)
            go_wp2_with fail
            go_meet
            exact ⟨rfl, (Kept.refl _ _).drewN _⟩
          · have hA := HA8.out hz
            have cr := reply_any HT8.out
            unfold EReply at cr
            rw [hA.1, hA.2.1, hA.2.2.1, hA.2.2.2] at cr
            have hzb : (z.oc == 0) = false := by simpa using hz
            have hzn : (z.oc != 0) = true := by simpa using hz
            have htl : z.told.length ≤ 4 := by
              rw [← hA.2.2.2]
              unfold Tn.told
              have q1 := HT8.out.len
              have q2 := HT8.out.few
              split
              · omega
              · simp
            have N0 : ∀ W, Kept (fun _ => True) w8 W → W.cell? ⟨R, 0, none⟩ = some (.int .i64 z.oc) := fun W q => (kept_cell q (lt_of_block HR8.out) trivial).trans r0
            have N1 : ∀ W, Kept (fun _ => True) w8 W → W.cell? ⟨R, 1, none⟩ = some (.slice ro z.told.length rc) := fun W q => (kept_cell q (lt_of_block HR8.out) trivial).trans r1
            have N2 : ∀ W, Kept (fun _ => True) w8 W → W.cell? ⟨R, 2, none⟩ = some (.int .i64 z.ar) := fun W q => (kept_cell q (lt_of_block HR8.out) trivial).trans r2
            have N3 : ∀ W, Kept (fun _ => True) w8 W → W.cell? ⟨R, 3, none⟩ = some (.int .i64 z.wy) := fun W q => (kept_cell q (lt_of_block HR8.out) trivial).trans r3
            have CRp : Hid (∀ W, Kept (fun _ => True) w8 W → Calls Try.prog 18 #[.pointer (some ⟨T, 0, none⟩)] W fun e w' => ∃ ro rc, e = .returned (.agg #[.int .i64 z.oc, .slice ro z.told.length rc, .int .i64 z.ar, .int .i64 z.wy]) ∧ Txs w' W.heap.size (.slice ro z.told.length rc) z.told ∧ Kept (fun _ => True) W w') := fun W kk => by
              have c := reply_any (HT8.out.all kk)
              unfold EReply at c
              rw [hA.1, hA.2.1, hA.2.2.1, hA.2.2.2] at c
              exact c
            have HX8 : Hid (Txs w8 wr.heap.size (.slice ro z.told.length rc) z.told) := HX8.out
            clear r0 r1 r2 r3 cr hA
            generalize z.told = xs at *
            generalize z.oc = zo at *
            generalize z.ar = za at *
            generalize z.wy = zw at *
            go_region_held3 (fun W => Kept (fun _ => True) w8 W) (first | assumption | (repeat (first | assumption | exact Kept.refl _ _ | refine Kept.drew ?_))) (first
              | (go_at_call 18; (with_reducible refine Calls.mono (CRp.out _ (by first | assumption | (repeat (first | assumption | exact Kept.refl _ _ | refine Kept.drew ?_)))) ?_); rintro e w9 ⟨ro9, rc9, rfl, h9, k9⟩; have s9 : Kept (fun _ => True) w8 w9 := (Kept.refl _ _).drew.trans k9; have c9 := reply_same (oc := zo) (ar := za) (wy := zw) (HX8.out.kept s9 (fun _ _ => trivial)) h9 (by omega); clear h9 k9)
              | (go_at_call 17; (with_reducible refine Calls.mono c9 ?_); rintro e w10 ⟨rfl, k10⟩; have s10 : Kept (fun _ => True) w8 w10 := s9.trans k10; clear k10))
            all_goals
              go_wp2_with fail
              go_meet
              exact ⟨rfl, s10⟩
        case rest =>
        obtain ⟨rfl, kc⟩ := hcut
        have KX : Hid (Kept (PY T tv Y) w4 wc) := HKx.out.trans (kc.mono (fun _ _ _ => trivial))
        have HT10 : Hid (Tm wc b2 T ov tv z') := HT8.out.all kc
        have HY10 : Hid (Ya wc Y ys') := HY8.out.kept kc trivial
        have co := outcome_any HT10.out
        clear kc HT8 HY8 HKx HA8 HR8 HX8 r0 r1 r2 r3
        by_cases ho : z'.oc = 1
        · have hall : ∀ n (hn : n < gs.length), ys'.at gs[n] = true := fun n hn => by
            have hm := HG3.out _ (List.getElem_mem hn)
            refine HI8.out.vy _ hm.1 ?_
            rw [HI8.out.cm ho, memO_at _ _ hm.1]
            simpa using hm.2
          have HALL : Hid (∀ n (hn : n < gs.length), ys'.at gs[n] = true) := hall
          have e1 : (z'.oc == 1) = true := by simpa using ho
          clear hall
          go_wp2_with (go_at_call 13; (with_reducible refine Calls.mono co ?_); rintro e w11 ⟨rfl, hw⟩; obtain rfl : wc = w11 := hw.symm)
          clear co
          obtain ⟨w11, hw11⟩ : ∃ x, x = wc := ⟨_, rfl⟩
          subst hw11
          go_loopw [17] (fun t wr => ∃ n : Nat, n ≤ gs.length ∧ t = .int .i64 n ∧ wr = w11) (fun t _ => gs.length - (intOf t).toNat)
          case atStart => exact ⟨0, Nat.zero_le _, rfl, rfl⟩
          case round =>
          obtain ⟨n, hn, rfl, rfl⟩ := hrel
          have n0 : (0 : Int) ≤ (n : Int) := by omega
          by_cases hln : n < gs.length
          · have n1 : (n : Int) < (gs.length : Int) := by omega
            have c0 := HGA.out _ KX.out n hln
            have hm := (HG3.out _ (List.getElem_mem hln)).1
            have y0 := HY10.out.cell hm
            rw [HALL.out n hln] at y0
            generalize gs[n] = g at *
            have m0 : (0 : Int) ≤ (g : Int) := by omega
            have m1 : (g : Int) < 3 := by omega
            go_wp2_with fail
            go_roundw
            case rel => exact ⟨n + 1, by omega, by go_num, by trivial⟩
            case measure => simp [intOf]; omega
          · have n1 : ¬ (n : Int) < (gs.length : Int) := by omega
            go_wp2_with fail
            go_roundw
            case rel => exact ⟨i + 1, z', ys', by omega, by omega, by go_num, HT10.out, HI8.out, HY10.out, KX.out⟩
            case measure => simp [intOf]; omega
        · have e1 : (z'.oc == 1) = false := by simpa using ho
          go_wp2_with (go_at_call 13; (with_reducible refine Calls.mono co ?_); rintro e w11 ⟨rfl, hw⟩; obtain rfl : wc = w11 := hw.symm)
          go_roundw
          case rel => exact ⟨i + 1, z', ys', by omega, by omega, by go_num, HT10.out, HI8.out, HY10.out, KX.out⟩
          case measure => simp [intOf]; omega
    · have hex : ¬ (i : Int) < (qs.length : Int) ∨ ((i : Int) < (qs.length : Int) ∧ ¬ (i : Int) < 30) := by omega
      have KW : Hid (Kept (fun _ => True) w wr) := HKw4.out.then HK.out (fun x hx _ => HPw.out x hx)
      rcases hex with hex | ⟨he1, he2⟩
      · go_wp2_with (go_at_call 20; (with_reducible refine Calls.mono (known_txn _) ?_); rintro e w6 ⟨rfl, k6⟩)
        go_ret
        exact ⟨rfl, KW.out.trans k6⟩
      · go_wp2_with (go_at_call 20; (with_reducible refine Calls.mono (known_txn _) ?_); rintro e w6 ⟨rfl, k6⟩)
        go_ret
        exact ⟨rfl, KW.out.trans k6⟩

end Go.Proofs.Ytebpkhemkdgbjaa
