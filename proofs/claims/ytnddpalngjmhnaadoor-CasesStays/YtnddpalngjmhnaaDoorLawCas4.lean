/-
  CasesStays.
-/
import Derived.Test.YtnddpalngjmhnaaDoorVLw
namespace Go.Proofs.YtnddpalngjmhnaaDoor
open Go.RowKit

set_option maxRecDepth 100000 in
set_option maxHeartbeats 16000000 in
theorem casesStays_any {w : World} {tv lv : Value} {t : Ty} {os : List Oq} (ht : TyV w tv t) (hz : Tsz t) (ho : Ov w lv os) (hTab : Tab w) : Calls Tryd.prog 6 #[tv, lv] w fun e w' => e = .returned (.bool true) ∧ Kept (fun _ => True) w w' := by
  have HTb : Hid (Tab w) := hTab
  have HOv : Hid (Ov w lv os) := ho
  have HTy : Hid (TyV w tv t) := ht
  obtain ⟨lo, lc, rfl, llen⟩ := ho.form
  obtain ⟨xa, xn, xc, ya, yn, yc, za, zn, zc, rfl⟩ := ht.parts
  have hT0 := heap_alloc_new w (.cells #[.string ⟨t.name.toArray⟩, .slice xa xn xc, .slice ya yn yc, .slice za zn zc] 25)
  have ka : Kept (fun _ => True) w (w.alloc (.cells #[.string ⟨t.name.toArray⟩, .slice xa xn xc, .slice ya yn yc, .slice za zn zc] 25)) := (Kept.refl _ _).alloc _
  have cr := rightL_any (HTy.out.all ka) hz
  obtain ⟨t0, ht0⟩ : ∃ t0, t0 = rightT t := ⟨_, rfl⟩
  have HG0 : Hid (Good t0) := by rw [ht0]; exact right_good t
  rw [← ht0] at cr
  have HT0 : Hid _ := hT0
  have K0 : Hid _ := ka
  obtain ⟨⟨y0, y1, y2, y3⟩, _⟩ := four_cell hT0
  clear hTab ho ht hz hT0 ka ht0
  go_enter Tryd.func6, Tryd.ntmps6
  go_wp2_with fail
  refine Calls.mono cr ?_
  rintro e w1 ⟨v1, rfl, hty1, k1⟩
  obtain ⟨aa, an, ac, sa, sn, sc, ma, mn, mc, rfl⟩ := hty1.parts
  obtain ⟨L, hL⟩ : ∃ L, L = t0.name := ⟨_, rfl⟩
  rw [← hL] at hty1 ⊢
  have hT1 := (k1.block _ (lt_of_block HT0.out) trivial).trans HT0.out
  obtain ⟨T, hTe⟩ : ∃ T, T = w.heap.size := ⟨_, rfl⟩
  rw [← hTe] at hT1 ⊢
  have HTe : Hid (T = w.heap.size) := hTe
  have K1 : Hid (Kept (fun _ => True) w w1) := K0.out.trans k1
  have kp := put4_kept (p := (· ≠ T)) (w := w1) (D := T) (by simp) (.string ⟨L.toArray⟩) (.slice aa an ac) (.slice sa sn sc) (.slice ma mn mc)
  have HTy2 : Hid (TyV (put4 w1 T (.string ⟨L.toArray⟩) (.slice aa an ac) (.slice sa sn sc) (.slice ma mn mc)) (.agg #[.string ⟨L.toArray⟩, .slice aa an ac, .slice sa sn sc, .slice ma mn mc]) t0) := hty1.store hT1 kp
  have HT2 : Hid ((put4 w1 T (.string ⟨L.toArray⟩) (.slice aa an ac) (.slice sa sn sc) (.slice ma mn mc)).heap[T]? = some (.cells #[.string ⟨L.toArray⟩, .slice aa an ac, .slice sa sn sc, .slice ma mn mc] 25 (0, 0))) := put4_at hT1 _ _ _ _
  have K2 : Hid (Kept (fun _ => True) w (put4 w1 T (.string ⟨L.toArray⟩) (.slice aa an ac) (.slice sa sn sc) (.slice ma mn mc))) := put4_new K1.out (by have := HTe.out; omega) _ _ _ _
  obtain ⟨⟨r0, r1, r2, r3⟩, _⟩ := four_cell hT1
  clear cr y0 y1 y2 y3 k1 hty1 hL hTe kp
  go_upto_region 2 with fail
  unfold put4 at HTy2 HT2 K2
  generalize (((w1.setCell ⟨T, 0, none⟩ (.string ⟨L.toArray⟩)).setCell ⟨T, 1, none⟩ (.slice aa an ac)).setCell ⟨T, 2, none⟩ (.slice sa sn sc)).setCell ⟨T, 3, none⟩ (.slice ma mn mc) = w2 at *
  have cn := new_any HTy2.out HG0.out
  obtain ⟨s1, hs1⟩ : ∃ s1, s1 = newP t0 := ⟨_, rfl⟩
  have HF1 : Hid (Fit t0 s1) := by rw [hs1]; exact Fit.new HG0.out
  rw [← hs1] at cn
  have hT2 := HT2.out
  clear r0 r1 r2 r3 hT1 hs1
  obtain ⟨⟨y0, y1, y2, y3⟩, _⟩ := four_cell hT2
  go_wp2_with fail
  refine Calls.mono cn ?_
  rintro e w3 ⟨v3, rfl, ho3, k3⟩
  have hst3 := ho3.view (HF1.out.few HG0.out)
  obtain ⟨a1, c1, a2, c2, a3, c3, rfl⟩ := hst3.parts
  have ka : Kept (fun _ => True) w3 (w3.alloc (.cells #[.string ⟨s1.type.toArray⟩, .slice a1 s1.vals.length c1, .slice a2 s1.done.length c2, .slice a3 s1.got.length c3] 31)) := (Kept.refl _ _).alloc _
  have hS := heap_alloc_new w3 (.cells #[.string ⟨s1.type.toArray⟩, .slice a1 s1.vals.length c1, .slice a2 s1.done.length c2, .slice a3 s1.got.length c3] 31)
  have hLw : Lw w (w3.alloc (.cells #[.string ⟨s1.type.toArray⟩, .slice a1 s1.vals.length c1, .slice a2 s1.done.length c2, .slice a3 s1.got.length c3] 31)) t0 s1 T w3.heap.size L aa sa ma an ac sn sc mn mc a1 a2 a3 c1 c2 c3 :=
    ⟨((k3.trans ka).block _ (lt_of_block HT2.out) trivial).trans HT2.out, HTy2.out.all (k3.trans ka), hS, hst3.all ka, HF1.out, ⟨Nat.le_trans K2.out.size k3.size, by have := lt_of_block HT2.out; have := k3.size; omega⟩, K2.out.trans (k3.trans ka)⟩
  have HLw : Hid _ := hLw
  clear cn y0 y1 y2 y3 ho3 hst3 k3 ka hS hLw hT2 HT2 HTy2 K2
  go_upto_region 3 with fail
  generalize w3.alloc (.cells #[.string ⟨s1.type.toArray⟩, .slice a1 s1.vals.length c1, .slice a2 s1.done.length c2, .slice a3 s1.got.length c3] 31) = w4 at *
  generalize w3.heap.size = S at *
  go_wp2_with fail
  go_loopw [6, 7, 8, 9, 10, 11, 12] (fun ti _ _ _ _ _ _ wr => ∃ (i : Nat) (s : Sa) (a1 a2 a3 : Option Addr) (c1 c2 c3 : Nat), i ≤ os.length ∧ i ≤ 60 ∧ ti = .int .i64 i ∧ Lw w wr t0 s T S L aa sa ma an ac sn sc mn mc a1 a2 a3 c1 c2 c3) (fun ti _ _ _ _ _ _ _ => 60 - (intOf ti).toNat)
  case atStart => exact ⟨0, s1, a1, a2, a3, c1, c2, c3, Nat.zero_le _, by omega, rfl, HLw.out⟩
  case round =>
  obtain ⟨i, s, a1, a2, a3, c1, c2, c3, hi, hi60, rfl, hlw⟩ := hrel
  have HLr : Hid (Lw w wr t0 s T S L aa sa ma an ac sn sc mn mc a1 a2 a3 c1 c2 c3) := hlw
  by_cases hlt : i < os.length ∧ i < 60
  · obtain ⟨hlt, hlt2⟩ := hlt
    obtain ⟨b, off, rfl, hb, q0, q1, q2, q3⟩ := (HOv.out.all hlw.kept).at i hlt
    have i1 : (i : Int) < (os.length : Int) := by omega
    have i2 : (i : Int) < 60 := by omega
    have i0 : (0 : Int) ≤ (i : Int) := by omega
    have hsm : s.done.length ≤ 6 ∧ s.got.length ≤ 6 := by
      have := hlw.fit.sz.done; have := hlw.fit.sz.got; have := HG0.out.ns; have := HG0.out.nm
      omega
    obtain ⟨hsm1, hsm2⟩ := hsm
    obtain ⟨⟨z0, z1, z2, z3⟩, _⟩ := four_cell hlw.sbox
    have ka : Kept (fun _ => True) wr (wr.alloc (.cells #[.string ⟨s.type.toArray⟩, .slice a1 s.vals.length c1, .slice a2 s.done.length c2, .slice a3 s.got.length c3] 31)) := (Kept.refl _ _).alloc _
    have hW := heap_alloc_new wr (.cells #[.string ⟨s.type.toArray⟩, .slice a1 s.vals.length c1, .slice a2 s.done.length c2, .slice a3 s.got.length c3] 31)
    have HWb : Hid _ := hW
    have HL5 : Hid (Lw w (wr.alloc (.cells #[.string ⟨s.type.toArray⟩, .slice a1 s.vals.length c1, .slice a2 s.done.length c2, .slice a3 s.got.length c3] 31)) t0 s T S L aa sa ma an ac sn sc mn mc a1 a2 a3 c1 c2 c3) := hlw.all ka
    have HO5 : Hid (Ov _ (.slice (some ⟨b, off, none⟩) os.length lc) os) := HOv.out.all HL5.out.kept
    clear hlw hW ka q0 q1 q2 q3 hb
    go_upto_region 7 with fail
    generalize wr.alloc (.cells #[.string ⟨s.type.toArray⟩, .slice a1 s.vals.length c1, .slice a2 s.done.length c2, .slice a3 s.got.length c3] 31) = w5 at *
    have hWS : wr.heap.size ≠ S := by have := lt_of_block HLr.out.sbox; omega
    have HWS : Hid _ := hWS
    clear hWS
    generalize wr.heap.size = WB at *
    clear z0 z1 z2 z3
    obtain ⟨b', off', hbo, hb, q0, q1, q2, q3⟩ := HO5.out.at i hlt
    cases hbo
    generalize os[i] = op at *
    have hT5 := HL5.out.tbox
    have hS5 := HL5.out.sbox
    obtain ⟨⟨y0, y1, y2, y3⟩, _⟩ := four_cell hT5
    obtain ⟨⟨z0, z1, z2, z3⟩, _⟩ := four_cell hS5
    have Y0 := fun W (q : Kept (fun _ => True) w5 W) => (kept_cell q (lt_of_block hT5) trivial).trans y0
    have Y1 := fun W (q : Kept (fun _ => True) w5 W) => (kept_cell q (lt_of_block hT5) trivial).trans y1
    have Y2 := fun W (q : Kept (fun _ => True) w5 W) => (kept_cell q (lt_of_block hT5) trivial).trans y2
    have Y3 := fun W (q : Kept (fun _ => True) w5 W) => (kept_cell q (lt_of_block hT5) trivial).trans y3
    have Q0 := fun W (q : Kept (fun _ => True) w5 W) => (kept_cell q (lt_of_block hS5) trivial).trans z0
    have Q1 := fun W (q : Kept (fun _ => True) w5 W) => (kept_cell q (lt_of_block hS5) trivial).trans z1
    have Q2 := fun W (q : Kept (fun _ => True) w5 W) => (kept_cell q (lt_of_block hS5) trivial).trans z2
    have Q3 := fun W (q : Kept (fun _ => True) w5 W) => (kept_cell q (lt_of_block hS5) trivial).trans z3
    have O0 := fun W (q : Kept (fun _ => True) w5 W) => (kept_cell q hb trivial).trans q0
    have O1 := fun W (q : Kept (fun _ => True) w5 W) => (kept_cell q hb trivial).trans q1
    have O2 := fun W (q : Kept (fun _ => True) w5 W) => (kept_cell q hb trivial).trans q2
    have O3 := fun W (q : Kept (fun _ => True) w5 W) => (kept_cell q hb trivial).trans q3
    have kd : Kept (fun _ => True) w5 w5.drew := (Kept.refl _ _).drew
    have HAp : Hid (∀ W, Kept (fun _ => True) w5 W → Calls Tryd.prog 17 #[.agg #[.string ⟨L.toArray⟩, .slice aa an ac, .slice sa sn sc, .slice ma mn mc], .agg #[.string ⟨s.type.toArray⟩, .slice a1 s.vals.length c1, .slice a2 s.done.length c2, .slice a3 s.got.length c3], .agg #[.int .i64 op.kind, .string ⟨op.cas.toArray⟩, .string ⟨op.name.toArray⟩, .int .i64 op.n]] W fun e w' => ∃ va vd vg, e = .returned (.tuple #[.agg #[.string ⟨(applyP t0 s op).1.type.toArray⟩, va, vd, vg], .string ⟨(applyP t0 s op).2.1.toArray⟩, .int .i64 ((applyP t0 s op).2.2 : Nat)]) ∧ So w' W.heap.size va vd vg (applyP t0 s op).1 ∧ Kept (fun _ => True) W w') := fun W q => apply_to (HL5.out.type.all q) (HL5.out.state.all q) HG0.out HL5.out.fit (HTb.out.all (HL5.out.kept.trans q)) op
    clear y0 y1 y2 y3 z0 z1 z2 z3 q0 q1 q2 q3 hb hT5 hS5
    go_cut [8, 9, 10] from 28 to 38 (fun tA tB tC wx => ApR w5 wx t0 s op tA tB tC)
    case first =>
      go_region_held3 (fun W => Kept (fun _ => True) w5 W) (first | assumption | (repeat (first | exact Kept.refl _ _ | assumption | refine Kept.drew ?_ | refine Kept.alloc ?_ _ | refine Kept.setNew ?_ (by first | exact Nat.le_refl _ | exact p4.size | omega) _))) (first
        | (go_at_call 17; refine Calls.mono (HAp.out _ (by first | assumption | (repeat (first | exact Kept.refl _ _ | assumption | refine Kept.drew ?_ | refine Kept.alloc ?_ _ | refine Kept.setNew ?_ (by first | exact Nat.le_refl _ | exact p4.size | omega) _)))) ?_; rintro e v5 ⟨xa, xd, xg, rfl, hso, m5⟩; obtain ⟨b1, d1, b2, d2, b3, d3, rfl, rfl, rfl⟩ := hso.shapes; have HS5 : Hid _ := hso; have p5 : Kept (fun _ => True) w5 v5 := Kept.trans (by first | assumption | (repeat (first | exact Kept.refl _ _ | assumption | refine Kept.drew ?_ | refine Kept.alloc ?_ _ | refine Kept.setNew ?_ (by first | exact Nat.le_refl _ | exact p4.size | omega) _))) m5; first | (have hz5 := (m5.block w5.heap.size (by simp) trivial).trans (heap_alloc_new w5.drew _); obtain ⟨⟨r0, r1, r2, r3⟩, e0, e1, e2, e3⟩ := four_cell hz5) | skip; clear m5 hso))
      all_goals
        go_wp2_with fail
        go_meet
        first
          | exact ⟨_, _, _, _, _, _, _, rfl, rfl, rfl, Ap.late p5 HS5.out (by first | exact Nat.le_refl _ | exact p4.size | simp)⟩
          | exact ⟨_, _, _, _, _, _, _, rfl, rfl, rfl, Ap.early p5 HS5.out hz5 (by first | exact Nat.le_refl _ | exact p4.size) (by first | exact lt_of_block hz4 | simp)⟩
    case rest =>
    obtain ⟨D, p1, p2, p3, d1, d2, d3, rfl, rfl, rfl, hap⟩ := hcut
    have o0 := O0 _ hap.kept
    clear Y0 Y1 Y2 Y3 Q0 Q1 Q2 Q3 O0 O1 O2 O3 kd HAp
    have HFa : Hid ((applyP t0 s op).2.2 = 0 → Fit t0 (applyP t0 s op).1) := HL5.out.fit.apply op
    have HAf : Hid _ := apply_facts t0 s op
    have hbx := hap.box
    have hso := hap.so
    have HKc : Hid (Kept (fun _ => True) w5 wc) := hap.kept
    have HDl : Hid (w5.heap.size ≤ D) := hap.low
    clear hap
    generalize applyP t0 s op = R at *
    obtain ⟨X, tx, c⟩ := R
    simp only at HFa HAf hbx hso ⊢
    have HSo : Hid _ := hso
    have HBx : Hid (wc.heap[D]? = some (.cells #[.string ⟨X.type.toArray⟩, .slice p1 X.vals.length d1, .slice p2 X.done.length d2, .slice p3 X.got.length d3] 31 (0, 0))) := hbx
    have HLc : Hid (Lw w wc t0 s T S L aa sa ma an ac sn sc mn mc a1 a2 a3 c1 c2 c3) := HL5.out.all HKc.out
    have HWc : Hid _ := (HKc.out.block _ (lt_of_block HWb.out) trivial).trans HWb.out
    clear HL5 hso
    by_cases hc0 : c = 0
    · subst hc0
      have hfit := HFa.out rfl
      have HXf : Hid (Fit t0 X) := hfit
      have HXv : Hid (StV wc (.agg #[.string ⟨X.type.toArray⟩, .slice p1 X.vals.length d1, .slice p2 X.done.length d2, .slice p3 X.got.length d3]) X) := HSo.out.stv (hfit.few HG0.out)
      have HSty : Hid (Stays s X) := HAf.out.1 rfl
      have cf := fits_any HLc.out.type HXv.out HG0.out
      have hT6 := HLc.out.tbox
      obtain ⟨⟨y0, y1, y2, y3⟩, _⟩ := four_cell hT6
      obtain ⟨⟨x0, x1, x2, x3⟩, _⟩ := four_cell hbx
      have KWc : Hid (Kept (fun _ => True) w wc) := HLc.out.kept
      clear hfit hbx hT6
      by_cases hk5 : op.kind = 5
      · have hk6 : (op.kind == 5) = true := by simpa using hk5
        have hk7 : (op.kind != 5) = false := by simpa using hk5
        obtain ⟨hXs, hr2⟩ := Prod.mk.inj (HAf.out.2.2.1 hk5)
        have HXs : Hid (X = s) := hXs
        have HTxt : Hid (textP t0 s = tx) := (Prod.mk.inj hr2).1.symm
        clear hk5 hXs hr2
        go_wp2_with fail
        refine Calls.mono cf ?_
        rintro e v7 ⟨⟨q, rfl, hq⟩, k7⟩
        obtain rfl : q = true := hq.2 HXf.out
        have o2 := (kept_cell k7 (World.block_lt_of_cell? wc _ o0) trivial).trans o0
        have HLv : Hid (Lw w v7 t0 s T S L aa sa ma an ac sn sc mn mc a1 a2 a3 c1 c2 c3) := HLc.out.all k7
        have HWv : Hid _ := (k7.block _ (lt_of_block HWc.out) trivial).trans HWc.out
        have HBv : Hid _ := (k7.block _ (lt_of_block HBx.out) trivial).trans HBx.out
        have HXv7 : Hid (StV v7 (.agg #[.string ⟨X.type.toArray⟩, .slice p1 X.vals.length d1, .slice p2 X.done.length d2, .slice p3 X.got.length d3]) X) := StV.all HXv.out k7
        have cst := state_alike HXv7.out HLv.out.state (HXf.out.few HG0.out) HXs.out
        have hBv := HBv.out
        have hSv := HLv.out.sbox
        clear cf y0 y1 y2 y3 x0 x1 x2 x3 hq k7 o0
        obtain ⟨⟨x0, x1, x2, x3⟩, _⟩ := four_cell hBv
        obtain ⟨⟨z0, z1, z2, z3⟩, _⟩ := four_cell hSv
        clear hBv hSv
        go_wp2_with fail
        refine Calls.mono cst ?_
        rintro e v8 ⟨rfl, k8⟩
        have HLw8 : Hid (Lw w v8 t0 s T S L aa sa ma an ac sn sc mn mc a1 a2 a3 c1 c2 c3) := HLv.out.all k8
        have ctt := text_any HLw8.out.type HLw8.out.state HG0.out HLw8.out.fit (HTb.out.all HLw8.out.kept) (text_short HG0.out HLw8.out.fit)
        rw [HTxt.out] at ctt
        have o3 := (kept_cell k8 (World.block_lt_of_cell? v7 _ o2) trivial).trans o2
        have HWv8 : Hid _ := (k8.block _ (lt_of_block HWv.out) trivial).trans HWv.out
        have HBv8 : Hid _ := (k8.block _ (lt_of_block HBv.out) trivial).trans HBv.out
        have HXv8 : Hid (StV v8 (.agg #[.string ⟨X.type.toArray⟩, .slice p1 X.vals.length d1, .slice p2 X.done.length d2, .slice p3 X.got.length d3]) X) := StV.all HXv7.out k8
        have hTv := HLw8.out.tbox
        have hSv := HLw8.out.sbox
        clear cst x0 x1 x2 x3 z0 z1 z2 z3 k8 o2 HLv HWv HBv HXv7
        obtain ⟨⟨y0, y1, y2, y3⟩, _⟩ := four_cell hTv
        obtain ⟨⟨z0, z1, z2, z3⟩, _⟩ := four_cell hSv
        clear hTv hSv
        go_wp2_with fail
        refine Calls.mono ctt ?_
        rintro e w7 ⟨rfl, k9⟩
        have HL7 : Hid (Lw w w7 t0 s T S L aa sa ma an ac sn sc mn mc a1 a2 a3 c1 c2 c3) := HLw8.out.all k9
        have o1 := (kept_cell k9 (World.block_lt_of_cell? v8 _ o3) trivial).trans o3
        have HW7 : Hid _ := (k9.block _ (lt_of_block HWv8.out) trivial).trans HWv8.out
        have HB7 : Hid _ := (k9.block _ (lt_of_block HBv8.out) trivial).trans HBv8.out
        have HX7 : Hid (StV w7 (.agg #[.string ⟨X.type.toArray⟩, .slice p1 X.vals.length d1, .slice p2 X.done.length d2, .slice p3 X.got.length d3]) X) := StV.all HXv8.out k9
        clear ctt y0 y1 y2 y3 z0 z1 z2 z3 k9 o3 HLw8 HWv8 HBv8 HXv8
        go_upto_region 13 with fail
        have hB7 := HB7.out
        have hS7 := HL7.out.sbox
        obtain ⟨⟨x0, x1, x2, x3⟩, _⟩ := four_cell hB7
        obtain ⟨⟨z0, z1, z2, z3⟩, _⟩ := four_cell hS7
        have HL8 : Hid (Lw w (put4 w7 S (.string ⟨X.type.toArray⟩) (.slice p1 X.vals.length d1) (.slice p2 X.done.length d2) (.slice p3 X.got.length d3)) t0 X T S L aa sa ma an ac sn sc mn mc p1 p2 p3 d1 d2 d3) := HL7.out.put HX7.out HXf.out
        have kS := put4_kept (p := (· ≠ S)) (w := w7) (D := S) (by simp) (.string ⟨X.type.toArray⟩) (.slice p1 X.vals.length d1) (.slice p2 X.done.length d2) (.slice p3 X.got.length d3)
        have HW8 : Hid _ := (kS.block WB (lt_of_block HW7.out) HWS.out).trans HW7.out
        have HSv8 : Hid (StV (put4 w7 S (.string ⟨X.type.toArray⟩) (.slice p1 X.vals.length d1) (.slice p2 X.done.length d2) (.slice p3 X.got.length d3)) (.agg #[.string ⟨s.type.toArray⟩, .slice a1 s.vals.length c1, .slice a2 s.done.length c2, .slice a3 s.got.length c3]) s) := HL7.out.state.store HL7.out.sbox kS
        have HX8 : Hid (StV (put4 w7 S (.string ⟨X.type.toArray⟩) (.slice p1 X.vals.length d1) (.slice p2 X.done.length d2) (.slice p3 X.got.length d3)) (.agg #[.string ⟨X.type.toArray⟩, .slice p1 X.vals.length d1, .slice p2 X.done.length d2, .slice p3 X.got.length d3]) X) := HX7.out.store HL7.out.sbox kS
        have HL8s : Hid (Fit t0 s) := HL7.out.fit
        clear hB7 hS7 kS o1 HL7 HW7 HB7 HX7 HLc HWc HBx HXv HSo HKc
        unfold put4 at HL8 HW8 HSv8 HX8
        go_upto_region 14 with fail
        generalize (((w7.setCell ⟨S, 0, none⟩ (.string ⟨X.type.toArray⟩)).setCell ⟨S, 1, none⟩ (.slice p1 X.vals.length d1)).setCell ⟨S, 2, none⟩ (.slice p2 X.done.length d2)).setCell ⟨S, 3, none⟩ (.slice p3 X.got.length d3) = w8 at *
        clear x0 x1 x2 x3 z0 z1 z2 z3
        go_wp2_with fail
        go_loopw [11] (fun tk wq => ∃ k : Nat, k ≤ s.done.length ∧ tk = .int .i64 k ∧ Kept (fun _ => True) w8 wq) (fun tk _ => s.done.length - (intOf tk).toNat)
        case atStart => exact ⟨0, Nat.zero_le _, rfl, Kept.refl _ _⟩
        case round =>
        obtain ⟨k, hk, rfl, hkq⟩ := hrel
        have HKq : Hid (Kept (fun _ => True) w8 wr) := hkq
        have hWq := (hkq.block _ (lt_of_block HW8.out) trivial).trans HW8.out
        have hSq := (hkq.block _ (lt_of_block HL8.out.sbox) trivial).trans HL8.out.sbox
        obtain ⟨⟨u0, u1, u2, u3⟩, _⟩ := four_cell hWq
        obtain ⟨⟨z0, z1, z2, z3⟩, _⟩ := four_cell hSq
        by_cases hkl : k < s.done.length
        · have hkx : k < X.done.length := by rw [HXf.out.sz.done, ← HL8s.out.sz.done]; exact hkl
          obtain ⟨_, vd, vg, e5, _, cd, cg⟩ := StV.all HSv8.out hkq
          cases e5
          obtain ⟨g1, o1', rfl, hg1, r1⟩ := cd.boolAt k hkl
          obtain ⟨_, vd', vg', e6, _, cd', cg'⟩ := StV.all HX8.out hkq
          cases e6
          obtain ⟨g2, o2', rfl, hg2, r2⟩ := cd'.boolAt k hkx
          have k1 : (k : Int) < (s.done.length : Int) := by omega
          have k2 : (k : Int) < (X.done.length : Int) := by omega
          have k0 : (0 : Int) ≤ (k : Int) := by omega
          have himp : s.done[k] = true → X.done[k] = true := fun h => by
            have := HSty.out.done k (by rw [List.getElem?_eq_getElem hkl, h])
            rw [List.getElem?_eq_getElem hkx] at this
            exact Option.some.inj this
          have HImp : Hid _ := himp
          clear cd cg cd' cg' hkq hWq hSq himp hg1 hg2
          generalize s.done[k] = e1 at *
          generalize X.done[k] = e2 at *
          cases e1 with
          | false =>
            go_wp2_with fail
            go_roundw
            case rel => exact ⟨k + 1, by omega, by go_num, HKq.out⟩
            case measure => simp [intOf]; omega
          | true =>
            obtain rfl : e2 = true := HImp.out rfl
            go_wp2_with fail
            go_roundw
            case rel => exact ⟨k + 1, by omega, by go_num, HKq.out⟩
            case measure => simp [intOf]; omega
        · have k1 : ¬ (k : Int) < (s.done.length : Int) := by omega
          clear hkq hWq hSq
          have HKd : Hid (Kept (fun _ => True) w8 wr) := HKq.out
          clear HKq
          go_wp2_with fail
          clear u0 u1 u2 u3 z0 z1 z2 z3
          go_loopw [12] (fun tk wq => ∃ k : Nat, k ≤ s.got.length ∧ tk = .int .i64 k ∧ Kept (fun _ => True) w8 wq) (fun tk _ => s.got.length - (intOf tk).toNat)
          case atStart => exact ⟨0, Nat.zero_le _, rfl, HKd.out⟩
          case round =>
          obtain ⟨k, hk, rfl, hkq⟩ := hrel
          have HKq : Hid (Kept (fun _ => True) w8 wr) := hkq
          have hWq := (hkq.block _ (lt_of_block HW8.out) trivial).trans HW8.out
          have hSq := (hkq.block _ (lt_of_block HL8.out.sbox) trivial).trans HL8.out.sbox
          obtain ⟨⟨u0, u1, u2, u3⟩, _⟩ := four_cell hWq
          obtain ⟨⟨z0, z1, z2, z3⟩, _⟩ := four_cell hSq
          by_cases hkl : k < s.got.length
          · have hkx : k < X.got.length := by rw [HXf.out.sz.got, ← HL8s.out.sz.got]; exact hkl
            obtain ⟨_, vd, vg, e5, _, cd, cg⟩ := StV.all HSv8.out hkq
            cases e5
            obtain ⟨g1, o1', rfl, hg1, r1⟩ := cg.boolAt k hkl
            obtain ⟨_, vd', vg', e6, _, cd', cg'⟩ := StV.all HX8.out hkq
            cases e6
            obtain ⟨g2, o2', rfl, hg2, r2⟩ := cg'.boolAt k hkx
            have k1 : (k : Int) < (s.got.length : Int) := by omega
            have k2 : (k : Int) < (X.got.length : Int) := by omega
            have k0 : (0 : Int) ≤ (k : Int) := by omega
            have himp : s.got[k] = true → X.got[k] = true := fun h => by
              have := HSty.out.got k (by rw [List.getElem?_eq_getElem hkl, h])
              rw [List.getElem?_eq_getElem hkx] at this
              exact Option.some.inj this
            have HImp : Hid _ := himp
            clear cd cg cd' cg' hkq hWq hSq himp hg1 hg2
            generalize s.got[k] = e1 at *
            generalize X.got[k] = e2 at *
            cases e1 with
            | false =>
              go_wp2_with fail
              go_roundw
              case rel => exact ⟨k + 1, by omega, by go_num, HKq.out⟩
              case measure => simp [intOf]; omega
            | true =>
              obtain rfl : e2 = true := HImp.out rfl
              go_wp2_with fail
              go_roundw
              case rel => exact ⟨k + 1, by omega, by go_num, HKq.out⟩
              case measure => simp [intOf]; omega
          · have k1 : ¬ (k : Int) < (s.got.length : Int) := by omega
            clear hkq hWq hSq
            have HLn : Hid (Lw w wr t0 X T S L aa sa ma an ac sn sc mn mc p1 p2 p3 d1 d2 d3) := HL8.out.all HKq.out
            go_wp2_with fail
            go_roundw
            case rel => exact ⟨i + 1, X, p1, p2, p3, d1, d2, d3, by omega, by omega, by go_num, HLn.out⟩
            case measure => simp [intOf]; omega
      · have hk6 : (op.kind == 5) = false := by simpa using hk5
        have hk7 : (op.kind != 5) = true := by simpa using hk5
        have htx : tx = [] := HAf.out.2.2.2 hk5
        subst htx
        clear hk5
        go_wp2_with fail
        refine Calls.mono cf ?_
        rintro e w7 ⟨⟨q, rfl, hq⟩, k7⟩
        obtain rfl : q = true := hq.2 HXf.out
        have o1 := (kept_cell k7 (World.block_lt_of_cell? wc _ o0) trivial).trans o0
        have HL7 : Hid (Lw w w7 t0 s T S L aa sa ma an ac sn sc mn mc a1 a2 a3 c1 c2 c3) := HLc.out.all k7
        have HW7 : Hid _ := (k7.block _ (lt_of_block HWc.out) trivial).trans HWc.out
        have HB7 : Hid _ := (k7.block _ (lt_of_block HBx.out) trivial).trans HBx.out
        have HX7 : Hid (StV w7 (.agg #[.string ⟨X.type.toArray⟩, .slice p1 X.vals.length d1, .slice p2 X.done.length d2, .slice p3 X.got.length d3]) X) := StV.all HXv.out k7
        clear cf y0 y1 y2 y3 x0 x1 x2 x3 hq k7 o0
        go_upto_region 13 with fail
        have hB7 := HB7.out
        have hS7 := HL7.out.sbox
        obtain ⟨⟨x0, x1, x2, x3⟩, _⟩ := four_cell hB7
        obtain ⟨⟨z0, z1, z2, z3⟩, _⟩ := four_cell hS7
        have HL8 : Hid (Lw w (put4 w7 S (.string ⟨X.type.toArray⟩) (.slice p1 X.vals.length d1) (.slice p2 X.done.length d2) (.slice p3 X.got.length d3)) t0 X T S L aa sa ma an ac sn sc mn mc p1 p2 p3 d1 d2 d3) := HL7.out.put HX7.out HXf.out
        have kS := put4_kept (p := (· ≠ S)) (w := w7) (D := S) (by simp) (.string ⟨X.type.toArray⟩) (.slice p1 X.vals.length d1) (.slice p2 X.done.length d2) (.slice p3 X.got.length d3)
        have HW8 : Hid _ := (kS.block WB (lt_of_block HW7.out) HWS.out).trans HW7.out
        have HSv8 : Hid (StV (put4 w7 S (.string ⟨X.type.toArray⟩) (.slice p1 X.vals.length d1) (.slice p2 X.done.length d2) (.slice p3 X.got.length d3)) (.agg #[.string ⟨s.type.toArray⟩, .slice a1 s.vals.length c1, .slice a2 s.done.length c2, .slice a3 s.got.length c3]) s) := HL7.out.state.store HL7.out.sbox kS
        have HX8 : Hid (StV (put4 w7 S (.string ⟨X.type.toArray⟩) (.slice p1 X.vals.length d1) (.slice p2 X.done.length d2) (.slice p3 X.got.length d3)) (.agg #[.string ⟨X.type.toArray⟩, .slice p1 X.vals.length d1, .slice p2 X.done.length d2, .slice p3 X.got.length d3]) X) := HX7.out.store HL7.out.sbox kS
        have HL8s : Hid (Fit t0 s) := HL7.out.fit
        clear hB7 hS7 kS o1 HL7 HW7 HB7 HX7 HLc HWc HBx HXv HSo HKc
        unfold put4 at HL8 HW8 HSv8 HX8
        go_upto_region 14 with fail
        generalize (((w7.setCell ⟨S, 0, none⟩ (.string ⟨X.type.toArray⟩)).setCell ⟨S, 1, none⟩ (.slice p1 X.vals.length d1)).setCell ⟨S, 2, none⟩ (.slice p2 X.done.length d2)).setCell ⟨S, 3, none⟩ (.slice p3 X.got.length d3) = w8 at *
        clear x0 x1 x2 x3 z0 z1 z2 z3
        go_wp2_with fail
        go_loopw [11] (fun tk wq => ∃ k : Nat, k ≤ s.done.length ∧ tk = .int .i64 k ∧ Kept (fun _ => True) w8 wq) (fun tk _ => s.done.length - (intOf tk).toNat)
        case atStart => exact ⟨0, Nat.zero_le _, rfl, Kept.refl _ _⟩
        case round =>
        obtain ⟨k, hk, rfl, hkq⟩ := hrel
        have HKq : Hid (Kept (fun _ => True) w8 wr) := hkq
        have hWq := (hkq.block _ (lt_of_block HW8.out) trivial).trans HW8.out
        have hSq := (hkq.block _ (lt_of_block HL8.out.sbox) trivial).trans HL8.out.sbox
        obtain ⟨⟨u0, u1, u2, u3⟩, _⟩ := four_cell hWq
        obtain ⟨⟨z0, z1, z2, z3⟩, _⟩ := four_cell hSq
        by_cases hkl : k < s.done.length
        · have hkx : k < X.done.length := by rw [HXf.out.sz.done, ← HL8s.out.sz.done]; exact hkl
          obtain ⟨_, vd, vg, e5, _, cd, cg⟩ := StV.all HSv8.out hkq
          cases e5
          obtain ⟨g1, o1', rfl, hg1, r1⟩ := cd.boolAt k hkl
          obtain ⟨_, vd', vg', e6, _, cd', cg'⟩ := StV.all HX8.out hkq
          cases e6
          obtain ⟨g2, o2', rfl, hg2, r2⟩ := cd'.boolAt k hkx
          have k1 : (k : Int) < (s.done.length : Int) := by omega
          have k2 : (k : Int) < (X.done.length : Int) := by omega
          have k0 : (0 : Int) ≤ (k : Int) := by omega
          have himp : s.done[k] = true → X.done[k] = true := fun h => by
            have := HSty.out.done k (by rw [List.getElem?_eq_getElem hkl, h])
            rw [List.getElem?_eq_getElem hkx] at this
            exact Option.some.inj this
          have HImp : Hid _ := himp
          clear cd cg cd' cg' hkq hWq hSq himp hg1 hg2
          generalize s.done[k] = e1 at *
          generalize X.done[k] = e2 at *
          cases e1 with
          | false =>
            go_wp2_with fail
            go_roundw
            case rel => exact ⟨k + 1, by omega, by go_num, HKq.out⟩
            case measure => simp [intOf]; omega
          | true =>
            obtain rfl : e2 = true := HImp.out rfl
            go_wp2_with fail
            go_roundw
            case rel => exact ⟨k + 1, by omega, by go_num, HKq.out⟩
            case measure => simp [intOf]; omega
        · have k1 : ¬ (k : Int) < (s.done.length : Int) := by omega
          clear hkq hWq hSq
          have HKd : Hid (Kept (fun _ => True) w8 wr) := HKq.out
          clear HKq
          go_wp2_with fail
          clear u0 u1 u2 u3 z0 z1 z2 z3
          go_loopw [12] (fun tk wq => ∃ k : Nat, k ≤ s.got.length ∧ tk = .int .i64 k ∧ Kept (fun _ => True) w8 wq) (fun tk _ => s.got.length - (intOf tk).toNat)
          case atStart => exact ⟨0, Nat.zero_le _, rfl, HKd.out⟩
          case round =>
          obtain ⟨k, hk, rfl, hkq⟩ := hrel
          have HKq : Hid (Kept (fun _ => True) w8 wr) := hkq
          have hWq := (hkq.block _ (lt_of_block HW8.out) trivial).trans HW8.out
          have hSq := (hkq.block _ (lt_of_block HL8.out.sbox) trivial).trans HL8.out.sbox
          obtain ⟨⟨u0, u1, u2, u3⟩, _⟩ := four_cell hWq
          obtain ⟨⟨z0, z1, z2, z3⟩, _⟩ := four_cell hSq
          by_cases hkl : k < s.got.length
          · have hkx : k < X.got.length := by rw [HXf.out.sz.got, ← HL8s.out.sz.got]; exact hkl
            obtain ⟨_, vd, vg, e5, _, cd, cg⟩ := StV.all HSv8.out hkq
            cases e5
            obtain ⟨g1, o1', rfl, hg1, r1⟩ := cg.boolAt k hkl
            obtain ⟨_, vd', vg', e6, _, cd', cg'⟩ := StV.all HX8.out hkq
            cases e6
            obtain ⟨g2, o2', rfl, hg2, r2⟩ := cg'.boolAt k hkx
            have k1 : (k : Int) < (s.got.length : Int) := by omega
            have k2 : (k : Int) < (X.got.length : Int) := by omega
            have k0 : (0 : Int) ≤ (k : Int) := by omega
            have himp : s.got[k] = true → X.got[k] = true := fun h => by
              have := HSty.out.got k (by rw [List.getElem?_eq_getElem hkl, h])
              rw [List.getElem?_eq_getElem hkx] at this
              exact Option.some.inj this
            have HImp : Hid _ := himp
            clear cd cg cd' cg' hkq hWq hSq himp hg1 hg2
            generalize s.got[k] = e1 at *
            generalize X.got[k] = e2 at *
            cases e1 with
            | false =>
              go_wp2_with fail
              go_roundw
              case rel => exact ⟨k + 1, by omega, by go_num, HKq.out⟩
              case measure => simp [intOf]; omega
            | true =>
              obtain rfl : e2 = true := HImp.out rfl
              go_wp2_with fail
              go_roundw
              case rel => exact ⟨k + 1, by omega, by go_num, HKq.out⟩
              case measure => simp [intOf]; omega
          · have k1 : ¬ (k : Int) < (s.got.length : Int) := by omega
            clear hkq hWq hSq
            have HLn : Hid (Lw w wr t0 X T S L aa sa ma an ac sn sc mn mc p1 p2 p3 d1 d2 d3) := HL8.out.all HKq.out
            go_wp2_with fail
            go_roundw
            case rel => exact ⟨i + 1, X, p1, p2, p3, d1, d2, d3, by omega, by omega, by go_num, HLn.out⟩
            case measure => simp [intOf]; omega
    · have hc1 : ((c : Int) != 0) = true := by simp; omega
      have hc2 : ((c : Int) == 0) = false := by simp; omega
      obtain ⟨hX, htx⟩ := HAf.out.2.1 hc0
      subst hX htx
      have HXv : Hid (StV wc (.agg #[.string ⟨Sa.none.type.toArray⟩, .slice p1 Sa.none.vals.length d1, .slice p2 Sa.none.done.length d2, .slice p3 Sa.none.got.length d3]) Sa.none) := HSo.out.stv ⟨by decide, by decide, by decide⟩
      have cst := state_same HXv.out (StV.none wc) ⟨by decide, by decide, by decide⟩
      obtain ⟨⟨x0, x1, x2, x3⟩, _⟩ := four_cell hbx
      clear hc0 hbx
      go_wp2_with fail
      refine Calls.mono cst ?_
      rintro e w7 ⟨rfl, k7⟩
      have HL7 : Hid (Lw w w7 t0 s T S L aa sa ma an ac sn sc mn mc a1 a2 a3 c1 c2 c3) := HLc.out.all k7
      clear cst x0 x1 x2 x3 k7 o0
      go_wp2_with fail
      go_roundw
      case rel => exact ⟨i + 1, s, a1, a2, a3, c1, c2, c3, by omega, by omega, by go_num, HL7.out⟩
      case measure => simp [intOf]; omega
  · have hor : ¬ i < os.length ∨ (i < os.length ∧ ¬ i < 60) := by omega
    have ckn := known_any (HTb.out.all hlw.kept)
    have HKf : Hid (Kept (fun _ => True) w wr) := hlw.kept
    clear hlw hlt
    rcases hor with h1 | ⟨h1, h2⟩
    · have i1 : ¬ (i : Int) < (os.length : Int) := by omega
      go_wp2_with fail
      refine Calls.mono ckn ?_
      rintro e w10 ⟨rfl, k10⟩
      go_wp2_with fail
      go_ret
      exact ⟨rfl, HKf.out.trans k10⟩
    · have i1 : (i : Int) < (os.length : Int) := by omega
      have i2 : ¬ (i : Int) < 60 := by omega
      go_wp2_with fail
      refine Calls.mono ckn ?_
      rintro e w10 ⟨rfl, k10⟩
      go_wp2_with fail
      go_ret
      exact ⟨rfl, HKf.out.trans k10⟩

end Go.Proofs.YtnddpalngjmhnaaDoor
