/-
  CasesReady.
-/
import Derived.Test.YtnddpalngjmhnaaDoorVLw
namespace Go.Proofs.YtnddpalngjmhnaaDoor
open Go.RowKit

theorem Lw.sn {w wr : World} {t : Ty} {s : Sa} {T S : Nat} {L : List UInt8} {aa sa ma : Option Addr} {an ac sn sc mn mc : Nat} {a1 a2 a3 : Option Addr} {c1 c2 c3 : Nat} (h : Lw w wr t s T S L aa sa ma an ac sn sc mn mc a1 a2 a3 c1 c2 c3) : sn = t.stages.length := by
  obtain ⟨_, vs, vm, e, _, hS, _⟩ := h.type
  cases e
  obtain ⟨_, _, e, _⟩ := hS.form
  cases e
  rfl
theorem Lw.stageAt {w wr : World} {t : Ty} {s : Sa} {T S : Nat} {L : List UInt8} {aa sa ma : Option Addr} {an ac sn sc mn mc : Nat} {a1 a2 a3 : Option Addr} {c1 c2 c3 : Nat} (h : Lw w wr t s T S L aa sa ma an ac sn sc mn mc a1 a2 a3 c1 c2 c3) (k : Nat) (hk : k < t.stages.length) : ∃ b off, sa = some ⟨b, off, none⟩ ∧ b < wr.heap.size ∧ wr.cell? ⟨b, off + k * 2, none⟩ = some (.string ⟨(t.stages[k]).name.toArray⟩) := by
  obtain ⟨_, vs, vm, e, _, hS, _⟩ := h.type
  cases e
  obtain ⟨b, off, e, hb, q0, _⟩ := hS.at k hk
  exact ⟨b, off, e, hb, q0⟩
theorem Ns.at {w : World} {ao : Option Addr} {n cap : Nat} {ns : List (List UInt8)} (h : Ns w (.slice ao n cap) ns) (i : Nat) (hi : i < ns.length) : ∃ b off, ao = some ⟨b, off, none⟩ ∧ b < w.heap.size ∧ w.cell? ⟨b, off + i, none⟩ = some (.string ⟨(ns[i]).toArray⟩) := by
  obtain ⟨ao', cap', e, _, h⟩ := h
  cases e
  obtain ⟨b, off, e, hb, hc⟩ := h (by omega)
  exact ⟨b, off, e, hb, hc i hi⟩
theorem mem_step {ns : List (List UInt8)} {n : Nat} (h : n < ns.length) (x : List UInt8) : x ∈ ns.take (n + 1) ↔ (x ∈ ns.take n ∨ ns[n] = x) := by
  rw [List.take_add_one, List.getElem?_eq_getElem h, List.mem_append]
  simp only [Option.toList_some, List.mem_singleton]
  exact or_congr Iff.rfl eq_comm
theorem ready_few {t : Ty} (g : Good t) (s : Sa) : (readyP t s).length ≤ 6 := by
  unfold readyP
  rw [List.length_map]
  refine Nat.le_trans (List.length_filter_le _ _) ?_
  rw [List.length_zip]
  have := g.ns
  omega

set_option maxRecDepth 100000 in
set_option maxHeartbeats 16000000 in
theorem casesReady_any {w : World} {tv lv : Value} {t : Ty} {os : List Oq} (ht : TyV w tv t) (hz : Tsz t) (ho : Ov w lv os) (hTab : Tab w) : Calls Tryd.prog 7 #[tv, lv] w fun e w' => e = .returned (.bool true) ∧ Kept (fun _ => True) w w' := by
  have HTb : Hid (Tab w) := hTab
  have HOv : Hid (Ov w lv os) := ho
  have HTy : Hid (TyV w tv t) := ht
  obtain ⟨lo, lc, rfl, llen⟩ := ho.form
  obtain ⟨xa, xn, xc, ya, yn, yc, za, zn, zc, rfl⟩ := ht.parts
  have hT0 := heap_alloc_new w (.cells #[.string ⟨t.name.toArray⟩, .slice xa xn xc, .slice ya yn yc, .slice za zn zc] 25)
  have ka : Kept (fun _ => True) w (w.alloc (.cells #[.string ⟨t.name.toArray⟩, .slice xa xn xc, .slice ya yn yc, .slice za zn zc] 25)) := (Kept.refl _ _).alloc _
  have cr := rightL_any (HTy.out.all ka) hz
  obtain ⟨t0, ht0⟩ : ∃ t0, t0 = rightT t := ⟨_, rfl⟩
  have HG0 : Hid (Good t0) := by rw [ht0]; exact right_good t
  rw [← ht0] at cr
  have HT0 : Hid _ := hT0
  have K0 : Hid _ := ka
  obtain ⟨⟨y0, y1, y2, y3⟩, _⟩ := four_cell hT0
  clear hTab ho ht hz hT0 ka ht0
  go_enter Tryd.func7, Tryd.ntmps7
  go_wp2_with fail
  refine Calls.mono cr ?_
  rintro e w1 ⟨v1, rfl, hty1, k1⟩
  obtain ⟨aa, an, ac, sa, sn, sc, ma, mn, mc, rfl⟩ := hty1.parts
  obtain ⟨L, hL⟩ : ∃ L, L = t0.name := ⟨_, rfl⟩
  rw [← hL] at hty1 ⊢
  have hT1 := (k1.block _ (lt_of_block HT0.out) trivial).trans HT0.out
  obtain ⟨T, hTe⟩ : ∃ T, T = w.heap.size := ⟨_, rfl⟩
  rw [← hTe] at hT1 ⊢
  have HTe : Hid (T = w.heap.size) := hTe
  have K1 : Hid (Kept (fun _ => True) w w1) := K0.out.trans k1
  have kp := put4_kept (p := (· ≠ T)) (w := w1) (D := T) (by simp) (.string ⟨L.toArray⟩) (.slice aa an ac) (.slice sa sn sc) (.slice ma mn mc)
  have HTy2 : Hid (TyV (put4 w1 T (.string ⟨L.toArray⟩) (.slice aa an ac) (.slice sa sn sc) (.slice ma mn mc)) (.agg #[.string ⟨L.toArray⟩, .slice aa an ac, .slice sa sn sc, .slice ma mn mc]) t0) := hty1.store hT1 kp
  have HT2 : Hid ((put4 w1 T (.string ⟨L.toArray⟩) (.slice aa an ac) (.slice sa sn sc) (.slice ma mn mc)).heap[T]? = some (.cells #[.string ⟨L.toArray⟩, .slice aa an ac, .slice sa sn sc, .slice ma mn mc] 25 (0, 0))) := put4_at hT1 _ _ _ _
  have K2 : Hid (Kept (fun _ => True) w (put4 w1 T (.string ⟨L.toArray⟩) (.slice aa an ac) (.slice sa sn sc) (.slice ma mn mc))) := put4_new K1.out (by have := HTe.out; omega) _ _ _ _
  obtain ⟨⟨r0, r1, r2, r3⟩, _⟩ := four_cell hT1
  clear cr y0 y1 y2 y3 k1 hty1 hL hTe kp
  go_upto_region 2 with fail
  unfold put4 at HTy2 HT2 K2
  generalize (((w1.setCell ⟨T, 0, none⟩ (.string ⟨L.toArray⟩)).setCell ⟨T, 1, none⟩ (.slice aa an ac)).setCell ⟨T, 2, none⟩ (.slice sa sn sc)).setCell ⟨T, 3, none⟩ (.slice ma mn mc) = w2 at *
  have cn := new_any HTy2.out HG0.out
  obtain ⟨s1, hs1⟩ : ∃ s1, s1 = newP t0 := ⟨_, rfl⟩
  have HF1 : Hid (Fit t0 s1) := by rw [hs1]; exact Fit.new HG0.out
  rw [← hs1] at cn
  have hT2 := HT2.out
  clear r0 r1 r2 r3 hT1 hs1
  obtain ⟨⟨y0, y1, y2, y3⟩, _⟩ := four_cell hT2
  go_wp2_with fail
  refine Calls.mono cn ?_
  rintro e w3 ⟨v3, rfl, ho3, k3⟩
  have hst3 := ho3.view (HF1.out.few HG0.out)
  obtain ⟨a1, c1, a2, c2, a3, c3, rfl⟩ := hst3.parts
  have ka : Kept (fun _ => True) w3 (w3.alloc (.cells #[.string ⟨s1.type.toArray⟩, .slice a1 s1.vals.length c1, .slice a2 s1.done.length c2, .slice a3 s1.got.length c3] 31)) := (Kept.refl _ _).alloc _
  have hS := heap_alloc_new w3 (.cells #[.string ⟨s1.type.toArray⟩, .slice a1 s1.vals.length c1, .slice a2 s1.done.length c2, .slice a3 s1.got.length c3] 31)
  have hLw : Lw w (w3.alloc (.cells #[.string ⟨s1.type.toArray⟩, .slice a1 s1.vals.length c1, .slice a2 s1.done.length c2, .slice a3 s1.got.length c3] 31)) t0 s1 T w3.heap.size L aa sa ma an ac sn sc mn mc a1 a2 a3 c1 c2 c3 :=
    ⟨((k3.trans ka).block _ (lt_of_block HT2.out) trivial).trans HT2.out, HTy2.out.all (k3.trans ka), hS, hst3.all ka, HF1.out, ⟨Nat.le_trans K2.out.size k3.size, by have := lt_of_block HT2.out; have := k3.size; omega⟩, K2.out.trans (k3.trans ka)⟩
  have HLw : Hid _ := hLw
  clear cn y0 y1 y2 y3 ho3 hst3 k3 ka hS hLw hT2 HT2 HTy2 K2
  go_upto_region 3 with fail
  generalize w3.alloc (.cells #[.string ⟨s1.type.toArray⟩, .slice a1 s1.vals.length c1, .slice a2 s1.done.length c2, .slice a3 s1.got.length c3] 31) = w4 at *
  generalize w3.heap.size = S at *
  go_wp2_with fail
  go_loopw [6, 7, 8, 9, 10, 11, 12, 13, 14, 15, 16, 17] (fun ti _ _ _ _ _ _ _ _ _ _ _ wr => ∃ (i : Nat) (s : Sa) (a1 a2 a3 : Option Addr) (c1 c2 c3 : Nat), i ≤ os.length ∧ i ≤ 40 ∧ ti = .int .i64 i ∧ Lw w wr t0 s T S L aa sa ma an ac sn sc mn mc a1 a2 a3 c1 c2 c3) (fun ti _ _ _ _ _ _ _ _ _ _ _ _ => 40 - (intOf ti).toNat)
  case atStart => exact ⟨0, s1, a1, a2, a3, c1, c2, c3, Nat.zero_le _, by omega, rfl, HLw.out⟩
  case round =>
  obtain ⟨i, s, a1, a2, a3, c1, c2, c3, hi, hi40, rfl, hlw⟩ := hrel
  have HLr : Hid (Lw w wr t0 s T S L aa sa ma an ac sn sc mn mc a1 a2 a3 c1 c2 c3) := hlw
  by_cases hlt : i < os.length ∧ i < 40
  · obtain ⟨hlt, hlt2⟩ := hlt
    obtain ⟨b, off, rfl, hb, q0, q1, q2, q3⟩ := (HOv.out.all hlw.kept).at i hlt
    have i1 : (i : Int) < (os.length : Int) := by omega
    have i2 : (i : Int) < 40 := by omega
    have i0 : (0 : Int) ≤ (i : Int) := by omega
    generalize os[i] = op at *
    have hT5 := hlw.tbox
    have hS5 := hlw.sbox
    obtain ⟨⟨y0, y1, y2, y3⟩, _⟩ := four_cell hT5
    obtain ⟨⟨z0, z1, z2, z3⟩, _⟩ := four_cell hS5
    have Y0 := fun W (q : Kept (fun _ => True) wr W) => (kept_cell q (lt_of_block hT5) trivial).trans y0
    have Y1 := fun W (q : Kept (fun _ => True) wr W) => (kept_cell q (lt_of_block hT5) trivial).trans y1
    have Y2 := fun W (q : Kept (fun _ => True) wr W) => (kept_cell q (lt_of_block hT5) trivial).trans y2
    have Y3 := fun W (q : Kept (fun _ => True) wr W) => (kept_cell q (lt_of_block hT5) trivial).trans y3
    have Z0 := fun W (q : Kept (fun _ => True) wr W) => (kept_cell q (lt_of_block hS5) trivial).trans z0
    have Z1 := fun W (q : Kept (fun _ => True) wr W) => (kept_cell q (lt_of_block hS5) trivial).trans z1
    have Z2 := fun W (q : Kept (fun _ => True) wr W) => (kept_cell q (lt_of_block hS5) trivial).trans z2
    have Z3 := fun W (q : Kept (fun _ => True) wr W) => (kept_cell q (lt_of_block hS5) trivial).trans z3
    have O0 := fun W (q : Kept (fun _ => True) wr W) => (kept_cell q hb trivial).trans q0
    have O1 := fun W (q : Kept (fun _ => True) wr W) => (kept_cell q hb trivial).trans q1
    have O2 := fun W (q : Kept (fun _ => True) wr W) => (kept_cell q hb trivial).trans q2
    have O3 := fun W (q : Kept (fun _ => True) wr W) => (kept_cell q hb trivial).trans q3
    have kd : Kept (fun _ => True) wr wr.drew := (Kept.refl _ _).drew
    have HAp : Hid (∀ W, Kept (fun _ => True) wr W → Calls Tryd.prog 17 #[.agg #[.string ⟨L.toArray⟩, .slice aa an ac, .slice sa sn sc, .slice ma mn mc], .agg #[.string ⟨s.type.toArray⟩, .slice a1 s.vals.length c1, .slice a2 s.done.length c2, .slice a3 s.got.length c3], .agg #[.int .i64 op.kind, .string ⟨op.cas.toArray⟩, .string ⟨op.name.toArray⟩, .int .i64 op.n]] W fun e w' => ∃ va vd vg, e = .returned (.tuple #[.agg #[.string ⟨(applyP t0 s op).1.type.toArray⟩, va, vd, vg], .string ⟨(applyP t0 s op).2.1.toArray⟩, .int .i64 ((applyP t0 s op).2.2 : Nat)]) ∧ So w' W.heap.size va vd vg (applyP t0 s op).1 ∧ Kept (fun _ => True) W w') := fun W q => apply_to (HLr.out.type.all q) (HLr.out.state.all q) HG0.out HLr.out.fit (HTb.out.all (HLr.out.kept.trans q)) op
    clear y0 y1 y2 y3 z0 z1 z2 z3 q0 q1 q2 q3 hb hT5 hS5 hlw
    go_upto_region 6 with fail
    go_cut [7, 8, 9] from 32 to 42 (fun tA tB tC wx => ApR wr wx t0 s op tA tB tC)
    case first =>
      go_region_held3 (fun W => Kept (fun _ => True) wr W) (first | assumption | (repeat (first | exact Kept.refl _ _ | assumption | refine Kept.drew ?_ | refine Kept.alloc ?_ _ | refine Kept.setNew ?_ (by first | exact Nat.le_refl _ | exact p4.size | omega) _))) (first
        | (go_at_call 17; refine Calls.mono (HAp.out _ (by first | assumption | (repeat (first | exact Kept.refl _ _ | assumption | refine Kept.drew ?_ | refine Kept.alloc ?_ _ | refine Kept.setNew ?_ (by first | exact Nat.le_refl _ | exact p4.size | omega) _)))) ?_; rintro e v5 ⟨xa, xd, xg, rfl, hso, m5⟩; obtain ⟨b1, d1, b2, d2, b3, d3, rfl, rfl, rfl⟩ := hso.shapes; have HS5 : Hid _ := hso; have p5 : Kept (fun _ => True) wr v5 := Kept.trans (by first | assumption | (repeat (first | exact Kept.refl _ _ | assumption | refine Kept.drew ?_ | refine Kept.alloc ?_ _ | refine Kept.setNew ?_ (by first | exact Nat.le_refl _ | exact p4.size | omega) _))) m5; first | (have hz5 := (m5.block wr.heap.size (by simp) trivial).trans (heap_alloc_new wr.drew _); obtain ⟨⟨r0, r1, r2, r3⟩, e0, e1, e2, e3⟩ := four_cell hz5) | skip; clear m5 hso))
      all_goals
        go_wp2_with fail
        go_meet
        first
          | exact ⟨_, _, _, _, _, _, _, rfl, rfl, rfl, Ap.late p5 HS5.out (by first | exact Nat.le_refl _ | exact p4.size | simp)⟩
          | exact ⟨_, _, _, _, _, _, _, rfl, rfl, rfl, Ap.early p5 HS5.out hz5 (by first | exact Nat.le_refl _ | exact p4.size) (by first | exact lt_of_block hz4 | simp)⟩
    case rest =>
    obtain ⟨D, p1, p2, p3, d1, d2, d3, rfl, rfl, rfl, hap⟩ := hcut
    have HFa : Hid ((applyP t0 s op).2.2 = 0 → Fit t0 (applyP t0 s op).1) := HLr.out.fit.apply op
    have hbx := hap.box
    have hso := hap.so
    have HKc : Hid (Kept (fun _ => True) wr wc) := hap.kept
    clear hap Y0 Y1 Y2 Y3 Z0 Z1 Z2 Z3 O0 O1 O2 O3 kd HAp
    generalize applyP t0 s op = R at *
    obtain ⟨X, tx, c⟩ := R
    simp only at HFa hbx hso ⊢
    have HSo : Hid _ := hso
    have HLc : Hid (Lw w wc t0 s T S L aa sa ma an ac sn sc mn mc a1 a2 a3 c1 c2 c3) := HLr.out.all HKc.out
    have HBx : Hid _ := hbx
    clear hso hbx HLr HKc
    go_upto_if 44 with fail
    go_cut [] from 43 to 45 (fun wx => ∃ (s : Sa) (a1 a2 a3 : Option Addr) (c1 c2 c3 : Nat), Lw w wx t0 s T S L aa sa ma an ac sn sc mn mc a1 a2 a3 c1 c2 c3)
    case first =>
      by_cases hc0 : c = 0
      · subst hc0
        have hfit := HFa.out rfl
        have HL6 : Hid (Lw w (put4 wc S (.string ⟨X.type.toArray⟩) (.slice p1 X.vals.length d1) (.slice p2 X.done.length d2) (.slice p3 X.got.length d3)) t0 X T S L aa sa ma an ac sn sc mn mc p1 p2 p3 d1 d2 d3) := HLc.out.put (HSo.out.stv (hfit.few HG0.out)) hfit
        have hB6 := HBx.out
        have hS6 := HLc.out.sbox
        obtain ⟨⟨x0, x1, x2, x3⟩, _⟩ := four_cell hB6
        obtain ⟨⟨z0, z1, z2, z3⟩, _⟩ := four_cell hS6
        clear hB6 hS6 hfit
        unfold put4 at HL6
        go_wp2_with fail
        go_meet
        exact ⟨X, p1, p2, p3, d1, d2, d3, HL6.out⟩
      · have hc2 : ((c : Int) == 0) = false := by simp; omega
        clear hc0
        go_wp2_with fail
        go_meet
        exact ⟨s, a1, a2, a3, c1, c2, c3, HLc.out⟩
    case rest =>
    clear HFa HSo HBx HLc
    obtain ⟨x, a1, a2, a3, c1, c2, c3, hlx⟩ := hcut
    have HLx : Hid (Lw w wc t0 x T S L aa sa ma an ac sn sc mn mc a1 a2 a3 c1 c2 c3) := hlx
    have crd := readys_any hlx.type hlx.state HG0.out hlx.fit
    have hT6 := hlx.tbox
    have hS6 := hlx.sbox
    obtain ⟨⟨y0, y1, y2, y3⟩, _⟩ := four_cell hT6
    obtain ⟨⟨z0, z1, z2, z3⟩, _⟩ := four_cell hS6
    clear hlx hT6 hS6
    go_wp2_with fail
    refine Calls.mono crd ?_
    rintro e w7 ⟨rv, rfl, htx, k7⟩
    have hrl : (readyP t0 x).length ≤ 6 := ready_few HG0.out x
    have hNs : Ns w7 rv (readyP t0 x) := htx.ns (by omega)
    obtain ⟨ra, rc, rfl, _, _⟩ := htx.shape
    have HRm : Hid (∀ k (hk : k < t0.stages.length), (t0.stages[k]).name ∈ readyP t0 x ↔ rdy t0 x k = true) := fun k hk => ready_mem HG0.out HLx.out.fit hk
    generalize readyP t0 x = rs at *
    have HL7 : Hid (Lw w w7 t0 x T S L aa sa ma an ac sn sc mn mc a1 a2 a3 c1 c2 c3) := HLx.out.all k7
    have HN7 : Hid (Ns w7 (.slice ra rs.length rc) rs) := hNs
    have HSn : Hid (sn = t0.stages.length) := HL7.out.sn
    have hsn : sn ≤ 6 := by have := HSn.out; have := HG0.out.ns; omega
    have hT7 := HL7.out.tbox
    clear crd y0 y1 y2 y3 z0 z1 z2 z3 htx k7 HLx hNs
    obtain ⟨⟨y0, y1, y2, y3⟩, _⟩ := four_cell hT7
    clear hT7
    go_wp2_with fail
    clear y0 y1 y2 y3
    go_loopw [11, 12, 13, 14, 15, 16, 17] (fun tk _ _ _ _ _ _ wq => ∃ k : Nat, k ≤ sn ∧ tk = .int .i64 k ∧ Kept (fun _ => True) w7 wq) (fun tk _ _ _ _ _ _ _ => sn - (intOf tk).toNat)
    case atStart => exact ⟨0, Nat.zero_le _, rfl, Kept.refl _ _⟩
    case round =>
    obtain ⟨k, hk, rfl, hkq⟩ := hrel
    have HKq : Hid (Kept (fun _ => True) w7 wr) := hkq
    have HLq : Hid (Lw w wr t0 x T S L aa sa ma an ac sn sc mn mc a1 a2 a3 c1 c2 c3) := HL7.out.all hkq
    have hT8 := HLq.out.tbox
    obtain ⟨⟨y0, y1, y2, y3⟩, _⟩ := four_cell hT8
    by_cases hkl : k < sn
    · have hkt : k < t0.stages.length := by rw [← HSn.out]; exact hkl
      obtain ⟨b2, off2, rfl, hb2, u0⟩ := HLq.out.stageAt k hkt
      have k1 : (k : Int) < (sn : Int) := by omega
      have k0 : (0 : Int) ≤ (k : Int) := by omega
      have HFf : Hid _ := fire_facts HG0.out HLq.out.fit hkt [99]
      have HRk : Hid _ := HRm.out k hkt
      clear hkq hT8 hb2
      generalize (t0.stages[k]).name = nm at *
      go_wp2_with fail
      clear y0 y1 y2 y3 u0
      go_loopw [13, 14] (fun tq tn wz => ∃ (n : Nat) (q : Bool), n ≤ rs.length ∧ tn = .int .i64 n ∧ tq = .bool q ∧ (q = true ↔ nm ∈ rs.take n) ∧ Kept (fun _ => True) w7 wz) (fun _ tn _ => rs.length - (intOf tn).toNat)
      case atStart => exact ⟨0, false, Nat.zero_le _, rfl, rfl, by simp, HKq.out⟩
      case round =>
      obtain ⟨n, q, hn, rfl, rfl, hq, hkz⟩ := hrel
      have HKz : Hid (Kept (fun _ => True) w7 wr) := hkz
      by_cases hnl : n < rs.length
      · obtain ⟨b3, off3, rfl, hb3, v0⟩ := (HN7.out.all hkz).at n hnl
        have n1 : (n : Int) < (rs.length : Int) := by omega
        have n0 : (0 : Int) ≤ (n : Int) := by omega
        have HMs : Hid _ := mem_step hnl nm
        have HQ : Hid _ := hq
        clear hkz hb3 hq
        generalize rs[n] = rn at *
        cases q with
        | true =>
          go_wp2_with fail
          go_roundw
          case rel => exact ⟨n + 1, true, by omega, by go_num, rfl, ⟨fun _ => HMs.out.2 (.inl (HQ.out.1 rfl)), fun _ => rfl⟩, HKz.out⟩
          case measure => simp [intOf]; omega
        | false =>
          by_cases hr : rn = nm
          · have hr2 : (rn == nm) = true := by simpa using hr
            have HR : Hid (rn = nm) := hr
            clear hr
            go_wp2_with fail
            go_roundw
            case rel => exact ⟨n + 1, true, by omega, by go_num, rfl, ⟨fun _ => HMs.out.2 (.inr HR.out), fun _ => rfl⟩, HKz.out⟩
            case measure => simp [intOf]; omega
          · have hr2 : (rn == nm) = false := by simpa using hr
            have HR : Hid (¬ rn = nm) := hr
            clear hr
            go_wp2_with fail
            go_roundw
            case rel => exact ⟨n + 1, false, by omega, by go_num, rfl, ⟨fun h => (by cases h), fun h => by
                rcases HMs.out.1 h with h | h
                · exact HQ.out.2 h
                · exact absurd h HR.out⟩, HKz.out⟩
            case measure => simp [intOf]; omega
      · have n1 : ¬ (n : Int) < (rs.length : Int) := by omega
        have hqr : (q = true) ↔ (rdy t0 x k = true) := by
          rw [show n = rs.length by omega, List.take_length] at hq
          exact hq.trans HRk.out
        have HQr : Hid (rdy t0 x k = q) := by
          show _ = _
          generalize rdy t0 x k = z at hqr
          cases q <;> cases z <;> simp_all
        have HLz : Hid (Lw w wr t0 x T S L aa (some ⟨b2, off2, none⟩) ma an ac sn sc mn mc a1 a2 a3 c1 c2 c3) := HL7.out.all hkz
        obtain ⟨oF, hoF⟩ : ∃ oF, oF = (⟨4, [99], nm, 0⟩ : Oq) := ⟨_, rfl⟩
        rw [← hoF] at HFf
        have HFi : Hid (∀ W, Calls Tryd.prog 12 #[.string ⟨#[99]⟩, .string ⟨nm.toArray⟩] W fun e w' => e = .returned (opV oF) ∧ Kept (fun _ => True) W w') := fun W => by
          rw [hoF]
          exact fireOp_any [99] nm
        have hT9 := HLz.out.tbox
        have hS9 := HLz.out.sbox
        obtain ⟨⟨y0, y1, y2, y3⟩, _⟩ := four_cell hT9
        obtain ⟨⟨z0, z1, z2, z3⟩, _⟩ := four_cell hS9
        have Y0 := fun W (q : Kept (fun _ => True) wr W) => (kept_cell q (lt_of_block hT9) trivial).trans y0
        have Y1 := fun W (q : Kept (fun _ => True) wr W) => (kept_cell q (lt_of_block hT9) trivial).trans y1
        have Y2 := fun W (q : Kept (fun _ => True) wr W) => (kept_cell q (lt_of_block hT9) trivial).trans y2
        have Y3 := fun W (q : Kept (fun _ => True) wr W) => (kept_cell q (lt_of_block hT9) trivial).trans y3
        have Z0 := fun W (q : Kept (fun _ => True) wr W) => (kept_cell q (lt_of_block hS9) trivial).trans z0
        have Z1 := fun W (q : Kept (fun _ => True) wr W) => (kept_cell q (lt_of_block hS9) trivial).trans z1
        have Z2 := fun W (q : Kept (fun _ => True) wr W) => (kept_cell q (lt_of_block hS9) trivial).trans z2
        have Z3 := fun W (q : Kept (fun _ => True) wr W) => (kept_cell q (lt_of_block hS9) trivial).trans z3
        have kd : Kept (fun _ => True) wr wr.drew := (Kept.refl _ _).drew
        have HAp : Hid (∀ W, Kept (fun _ => True) wr W → Calls Tryd.prog 17 #[.agg #[.string ⟨L.toArray⟩, .slice aa an ac, .slice (some ⟨b2, off2, none⟩) sn sc, .slice ma mn mc], .agg #[.string ⟨x.type.toArray⟩, .slice a1 x.vals.length c1, .slice a2 x.done.length c2, .slice a3 x.got.length c3], opV oF] W fun e w' => ∃ va vd vg, e = .returned (.tuple #[.agg #[.string ⟨(applyP t0 x oF).1.type.toArray⟩, va, vd, vg], .string ⟨(applyP t0 x oF).2.1.toArray⟩, .int .i64 ((applyP t0 x oF).2.2 : Nat)]) ∧ So w' W.heap.size va vd vg (applyP t0 x oF).1 ∧ Kept (fun _ => True) W w') := fun W q => apply_to (HLz.out.type.all q) (HLz.out.state.all q) HG0.out HLz.out.fit (HTb.out.all (HLz.out.kept.trans q)) oF
        clear y0 y1 y2 y3 z0 z1 z2 z3 hT9 hS9 hkz hq hqr hoF
        go_upto_region 19 with fail
        go_cut [15, 16, 17] from 77 to 85 (fun tA tB tC wx => ApR wr wx t0 x oF tA tB tC)
        case first =>
          go_region_held3 (fun W => Kept (fun _ => True) wr W) (first | assumption | (repeat (first | exact Kept.refl _ _ | assumption | refine Kept.drew ?_ | refine Kept.alloc ?_ _ | refine Kept.setNew ?_ (by first | exact Nat.le_refl _ | exact p4.size | omega) _))) (first
            | (go_at_call 12; refine Calls.mono (HFi.out _) ?_; rintro e v4 ⟨rfl, m4⟩; have p4 : Kept (fun _ => True) wr v4 := Kept.trans (by first | assumption | (repeat (first | exact Kept.refl _ _ | assumption | refine Kept.drew ?_ | refine Kept.alloc ?_ _ | refine Kept.setNew ?_ (by first | exact Nat.le_refl _ | exact p4.size | omega) _))) m4; try (have hz4 := (m4.block wr.heap.size (by simp) trivial).trans (heap_alloc_new wr.drew _)); clear m4)
            | (go_at_call 17; refine Calls.mono (HAp.out _ (by first | assumption | (repeat (first | exact Kept.refl _ _ | assumption | refine Kept.drew ?_ | refine Kept.alloc ?_ _ | refine Kept.setNew ?_ (by first | exact Nat.le_refl _ | exact p4.size | omega) _)))) ?_; rintro e v5 ⟨xa, xd, xg, rfl, hso, m5⟩; obtain ⟨b1, d1, b2, d2, b3, d3, rfl, rfl, rfl⟩ := hso.shapes; have HS5 : Hid _ := hso; have p5 : Kept (fun _ => True) wr v5 := Kept.trans (by first | assumption | (repeat (first | exact Kept.refl _ _ | assumption | refine Kept.drew ?_ | refine Kept.alloc ?_ _ | refine Kept.setNew ?_ (by first | exact Nat.le_refl _ | exact p4.size | omega) _))) m5; first | (have hz5 := (m5.block v4.heap.size (by simp) trivial).trans (heap_alloc_new v4 _); have HZ5 : Hid (v4.heap.size < v5.heap.size) := lt_of_block hz5; obtain ⟨⟨r0, r1, r2, r3⟩, e0, e1, e2, e3⟩ := four_cell hz5) | (have hz5 := (m5.block wr.heap.size (lt_of_block hz4) trivial).trans hz4; obtain ⟨⟨r0, r1, r2, r3⟩, e0, e1, e2, e3⟩ := four_cell hz5) | skip; clear m5 hso))
          all_goals
            go_wp2_with fail
            go_meet
            first
              | exact ⟨_, _, _, _, _, _, _, rfl, rfl, rfl, Ap.late p5 HS5.out (by first | exact Nat.le_refl _ | exact p4.size | simp)⟩
              | exact ⟨_, _, _, _, _, _, _, rfl, rfl, rfl, Ap.early p5 HS5.out hz5 (by first | exact Nat.le_refl _ | exact p4.size) (by first | exact lt_of_block hz4 | simp)⟩
        case rest =>
        obtain ⟨D2, p1, p2, p3, d1, d2, d3, rfl, rfl, rfl, hap⟩ := hcut
        have HFa : Hid ((applyP t0 x oF).2.2 = 0 → Fit t0 (applyP t0 x oF).1) := HLz.out.fit.apply oF
        have hbx := hap.box
        have hso := hap.so
        have HKc : Hid (Kept (fun _ => True) w7 wc) := HKz.out.trans hap.kept
        clear hap Y0 Y1 Y2 Y3 Z0 Z1 Z2 Z3 kd HAp HFi
        generalize applyP t0 x oF = R at *
        obtain ⟨X, tx, c⟩ := R
        simp only at HFa HFf hbx hso ⊢
        rw [HQr.out] at HFf
        obtain ⟨hf1, hf2⟩ := HFf.out
        clear HFf
        cases q with
        | true =>
          obtain rfl : c = 0 := hf1.2 rfl
          have hdk := hf2 rfl
          have hkx : k < X.done.length := by
            rcases Nat.lt_or_ge k X.done.length with h | h
            · exact h
            · rw [List.getElem?_eq_none h] at hdk; cases hdk
          rw [List.getElem?_eq_getElem hkx] at hdk
          have hde : X.done[k] = true := Option.some.inj hdk
          obtain ⟨_, vd, vg, e5, _, cd, _⟩ := hso.stv ((HFa.out rfl).few HG0.out)
          cases e5
          obtain ⟨g1, o1, rfl, hg1, r1⟩ := cd.boolAt k hkx
          rw [hde] at r1
          have k3 : (k : Int) < (X.done.length : Int) := by omega
          have k4 : X.done.length ≤ 1000000 := ((HFa.out rfl).few HG0.out).done
          obtain ⟨⟨x0, x1, x2, x3⟩, _⟩ := four_cell hbx
          clear hdk hde cd hg1 hso hbx hf1 hf2
          go_wp2_with fail
          go_roundw
          case rel => exact ⟨k + 1, by omega, by go_num, HKc.out⟩
          case measure => simp [intOf]; omega
        | false =>
          have hc0 : ¬ c = 0 := fun h => (by have := hf1.1 h; cases this)
          have hc2 : ((c : Int) == 0) = false := by simp; omega
          clear hc0 hf1 hf2 hso hbx
          go_wp2_with fail
          go_roundw
          case rel => exact ⟨k + 1, by omega, by go_num, HKc.out⟩
          case measure => simp [intOf]; omega
    · have k1 : ¬ (k : Int) < (sn : Int) := by omega
      clear hkq hT8
      go_wp2_with fail
      go_roundw
      case rel => exact ⟨i + 1, x, a1, a2, a3, c1, c2, c3, by omega, by omega, by go_num, HLq.out⟩
      case measure => simp [intOf]; omega
  · have hor : ¬ i < os.length ∨ (i < os.length ∧ ¬ i < 40) := by omega
    have ckn := known_any (HTb.out.all hlw.kept)
    have HKf : Hid (Kept (fun _ => True) w wr) := hlw.kept
    clear hlw hlt
    rcases hor with h1 | ⟨h1, h2⟩
    · have i1 : ¬ (i : Int) < (os.length : Int) := by omega
      go_wp2_with fail
      refine Calls.mono ckn ?_
      rintro e w10 ⟨rfl, k10⟩
      go_wp2_with fail
      go_ret
      exact ⟨rfl, HKf.out.trans k10⟩
    · have i1 : (i : Int) < (os.length : Int) := by omega
      have i2 : ¬ (i : Int) < 40 := by omega
      go_wp2_with fail
      refine Calls.mono ckn ?_
      rintro e w10 ⟨rfl, k10⟩
      go_wp2_with fail
      go_ret
      exact ⟨rfl, HKf.out.trans k10⟩

end Go.Proofs.YtnddpalngjmhnaaDoor
