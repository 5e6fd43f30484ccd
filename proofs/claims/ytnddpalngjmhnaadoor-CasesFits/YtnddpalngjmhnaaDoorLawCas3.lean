/-
  CasesFits.
-/
import Derived.Test.YtnddpalngjmhnaaDoorV12
import Derived.Test.YtnddpalngjmhnaaDoorVR3
import Derived.Test.YtnddpalngjmhnaaDoorVR5
namespace Go.Proofs.YtnddpalngjmhnaaDoor
open Go.RowKit

/-- A truth that tells whether a state that is looked at fits. -/
def Fq (w : World) (t : Ty) (v : Value) (q : Bool) : Prop := ∃ x, StV w v x ∧ (q = true ↔ Fit t x)
theorem Fq.some {w : World} {t : Ty} {v : Value} {x : Sa} (h : StV w v x) : ∃ q, Fq w t v q := by
  by_cases f : Fit t x
  · exact ⟨true, x, h, fun _ => f, fun _ => rfl⟩
  · exact ⟨false, x, h, fun e => (by cases e), fun e => absurd e f⟩
theorem same_truth {p q : Bool} {P : Prop} (h : p = true ↔ P) (k : q = true ↔ P) : p = q := by
  have := h.trans k.symm
  cases p <;> cases q <;> simp_all
theorem fits_q {w : World} {tv v : Value} {t : Ty} {q : Bool} (ht : TyV w tv t) (g : Good t) (h : Fq w t v q) (W : World) (k : Kept (fun _ => True) w W) :
    Calls Tryd.prog 22 #[tv, v] W fun e w' => e = .returned (.bool q) ∧ Kept (fun _ => True) W w' := by
  obtain ⟨x, hx, hq⟩ := h
  refine (fits_any (ht.all k) (StV.all hx k) g).mono ?_
  rintro e w' ⟨⟨q', rfl, hq'⟩, k'⟩
  exact ⟨by rw [same_truth hq' hq], k'⟩
theorem rfits_q {w : World} {tv v : Value} {t : Ty} {q : Bool} (ht : TyV w tv t) (g : Good t) (h : Fq w t v q) (W : World) (k : Kept (fun _ => True) w W) :
    Calls Tryd.prog 28 #[tv, v] W fun e w' => e = .returned (.bool q) ∧ Kept (fun _ => True) W w' := by
  obtain ⟨x, hx, hq⟩ := h
  refine (rfits_any (ht.all k) (StV.all hx k) g).mono ?_
  rintro e w' ⟨⟨q', rfl, hq'⟩, k'⟩
  exact ⟨by rw [same_truth hq' hq], k'⟩
theorem StV.typed {w : World} {v : Value} {x : Sa} {L : List UInt8} {a b c d : Value} (h : StV w v x) (e : v = .agg #[a, b, c, d]) : StV w (.agg #[.string ⟨L.toArray⟩, b, c, d]) { x with type := L } := by
  obtain ⟨va, vd, vg, rfl, h1, h2, h3⟩ := h
  cases e
  exact ⟨_, _, _, rfl, h1, h2, h3⟩

set_option maxRecDepth 100000 in
set_option maxHeartbeats 16000000 in
theorem casesFits_any {w : World} {tv sv uv : Value} {t : Ty} {s u : Sa} (ht : TyV w tv t) (hz : Tsz t) (hs : StV w sv s) (hu : StV w uv u) (hTab : Tab w) : Calls Tryd.prog 5 #[tv, sv, uv] w fun e w' => e = .returned (.bool true) ∧ Kept (fun _ => True) w w' := by
  have HTb : Hid (Tab w) := hTab
  have HTy : Hid (TyV w tv t) := ht
  have HSv : Hid (StV w sv s) := hs
  have HUv : Hid (StV w uv u) := hu
  have hul : u.vals.length ≤ 281474976710656 := by
    obtain ⟨_, _, _, _, h1, _, _⟩ := hu
    obtain ⟨_, _, _, h, _⟩ := h1.ints
    exact h
  obtain ⟨xa, xn, xc, ya, yn, yc, za, zn, zc, rfl⟩ := ht.parts
  obtain ⟨e1, e4, e2, e5, e3, e6, rfl⟩ := hs.parts
  obtain ⟨u1, u4, u2, u5, u3, u6, rfl⟩ := hu.parts
  obtain ⟨x1, x2, x3⟩ := alloc_three w (.cells #[.string ⟨t.name.toArray⟩, .slice xa xn xc, .slice ya yn yc, .slice za zn zc] 25) (.cells #[.string ⟨s.type.toArray⟩, .slice e1 s.vals.length e4, .slice e2 s.done.length e5, .slice e3 s.got.length e6] 31) (.cells #[.string ⟨u.type.toArray⟩, .slice u1 u.vals.length u4, .slice u2 u.done.length u5, .slice u3 u.got.length u6] 31)
  have ka : Kept (fun _ => True) w (((w.alloc (.cells #[.string ⟨t.name.toArray⟩, .slice xa xn xc, .slice ya yn yc, .slice za zn zc] 25)).alloc (.cells #[.string ⟨s.type.toArray⟩, .slice e1 s.vals.length e4, .slice e2 s.done.length e5, .slice e3 s.got.length e6] 31)).alloc (.cells #[.string ⟨u.type.toArray⟩, .slice u1 u.vals.length u4, .slice u2 u.done.length u5, .slice u3 u.got.length u6] 31)) := (((Kept.refl _ _).alloc _).alloc _).alloc _
  have cr := rightL_any (HTy.out.all ka) hz
  obtain ⟨t0, ht0⟩ : ∃ t0, t0 = rightT t := ⟨_, rfl⟩
  have HG0 : Hid (Good t0) := by rw [ht0]; exact right_good t
  rw [← ht0] at cr
  have X1 : Hid _ := x1
  have X2 : Hid _ := x2
  have X3 : Hid _ := x3
  have K0 : Hid _ := ka
  obtain ⟨⟨y0, y1, y2, y3⟩, _⟩ := four_cell x1
  clear hTab ht hz hs hu x1 x2 x3 ka ht0
  go_enter Tryd.func5, Tryd.ntmps5
  go_wp2_with fail
  refine Calls.mono cr ?_
  rintro e w1 ⟨v1, rfl, hty1, k1⟩
  obtain ⟨aa, an, ac, sa, sn, sc, ma, mn, mc, rfl⟩ := hty1.parts
  obtain ⟨L, hL⟩ : ∃ L, L = t0.name := ⟨_, rfl⟩
  rw [← hL] at hty1 ⊢
  have hT1 := (k1.block _ (lt_of_block X1.out) trivial).trans X1.out
  have hS1 := (k1.block _ (lt_of_block X2.out) trivial).trans X2.out
  have hU1 := (k1.block _ (lt_of_block X3.out) trivial).trans X3.out
  obtain ⟨T, hTe⟩ : ∃ T, T = w.heap.size := ⟨_, rfl⟩
  rw [← hTe] at hT1 hS1 hU1 ⊢
  have HTe : Hid (T = w.heap.size) := hTe
  have K1 : Hid (Kept (fun _ => True) w w1) := K0.out.trans k1
  have kp := put4_kept (p := (· ≠ T)) (w := w1) (D := T) (by simp) (.string ⟨L.toArray⟩) (.slice aa an ac) (.slice sa sn sc) (.slice ma mn mc)
  have HTy2 : Hid (TyV (put4 w1 T (.string ⟨L.toArray⟩) (.slice aa an ac) (.slice sa sn sc) (.slice ma mn mc)) (.agg #[.string ⟨L.toArray⟩, .slice aa an ac, .slice sa sn sc, .slice ma mn mc]) t0) := hty1.store hT1 kp
  have HT2 : Hid ((put4 w1 T (.string ⟨L.toArray⟩) (.slice aa an ac) (.slice sa sn sc) (.slice ma mn mc)).heap[T]? = some (.cells #[.string ⟨L.toArray⟩, .slice aa an ac, .slice sa sn sc, .slice ma mn mc] 25 (0, 0))) := put4_at hT1 _ _ _ _
  have HS2 : Hid ((put4 w1 T (.string ⟨L.toArray⟩) (.slice aa an ac) (.slice sa sn sc) (.slice ma mn mc)).heap[T + 1]? = some (.cells #[.string ⟨s.type.toArray⟩, .slice e1 s.vals.length e4, .slice e2 s.done.length e5, .slice e3 s.got.length e6] 31 (0, 0))) := (kp.block _ (lt_of_block hS1) (by omega)).trans hS1
  have HU2 : Hid ((put4 w1 T (.string ⟨L.toArray⟩) (.slice aa an ac) (.slice sa sn sc) (.slice ma mn mc)).heap[T + 1 + 1]? = some (.cells #[.string ⟨u.type.toArray⟩, .slice u1 u.vals.length u4, .slice u2 u.done.length u5, .slice u3 u.got.length u6] 31 (0, 0))) := (kp.block _ (lt_of_block hU1) (by omega)).trans hU1
  have K2 : Hid (Kept (fun _ => True) w (put4 w1 T (.string ⟨L.toArray⟩) (.slice aa an ac) (.slice sa sn sc) (.slice ma mn mc))) := put4_new K1.out (by have := HTe.out; omega) _ _ _ _
  obtain ⟨⟨r0, r1, r2, r3⟩, _⟩ := four_cell hT1
  clear cr y0 y1 y2 y3 k1 hty1 hL hTe kp X1 X2 X3 K0
  go_upto_region 2 with fail
  unfold put4 at HTy2 HT2 HS2 HU2 K2
  generalize (((w1.setCell ⟨T, 0, none⟩ (.string ⟨L.toArray⟩)).setCell ⟨T, 1, none⟩ (.slice aa an ac)).setCell ⟨T, 2, none⟩ (.slice sa sn sc)).setCell ⟨T, 3, none⟩ (.slice ma mn mc) = w2 at *
  have hT2 := HT2.out
  have hU2 := HU2.out
  have kU : Kept (· ≠ T + 1 + 1) w2 (w2.setCell ⟨T + 1 + 1, 0, none⟩ (.string ⟨L.toArray⟩)) := (Kept.refl _ _).setCell (by simp) _
  have HT3 : Hid ((w2.setCell ⟨T + 1 + 1, 0, none⟩ (.string ⟨L.toArray⟩)).heap[T]? = some (.cells #[.string ⟨L.toArray⟩, .slice aa an ac, .slice sa sn sc, .slice ma mn mc] 25 (0, 0))) := (kU.block _ (lt_of_block hT2) (by omega)).trans hT2
  have HS3 : Hid ((w2.setCell ⟨T + 1 + 1, 0, none⟩ (.string ⟨L.toArray⟩)).heap[T + 1]? = some (.cells #[.string ⟨s.type.toArray⟩, .slice e1 s.vals.length e4, .slice e2 s.done.length e5, .slice e3 s.got.length e6] 31 (0, 0))) := (kU.block _ (lt_of_block HS2.out) (by omega)).trans HS2.out
  have HU3 : Hid ((w2.setCell ⟨T + 1 + 1, 0, none⟩ (.string ⟨L.toArray⟩)).heap[T + 1 + 1]? = some (.cells #[.string ⟨L.toArray⟩, .slice u1 u.vals.length u4, .slice u2 u.done.length u5, .slice u3 u.got.length u6] 31 (0, 0))) := by
    have := set_cell hU2 0 (.string ⟨L.toArray⟩)
    show _ = _
    simpa using this
  have K3 : Hid (Kept (fun _ => True) w (w2.setCell ⟨T + 1 + 1, 0, none⟩ (.string ⟨L.toArray⟩))) := K2.out.setNew (by have := HTe.out; show _ ≤ T + 1 + 1; omega) _
  have HTy3 : Hid (TyV (w2.setCell ⟨T + 1 + 1, 0, none⟩ (.string ⟨L.toArray⟩)) (.agg #[.string ⟨L.toArray⟩, .slice aa an ac, .slice sa sn sc, .slice ma mn mc]) t0) := HTy2.out.store hU2 kU
  obtain ⟨⟨y0, y1, y2, y3⟩, _⟩ := four_cell hT2
  obtain ⟨⟨z0, z1, z2, z3⟩, _⟩ := four_cell hU2
  clear r0 r1 r2 r3 hT1 hS1 hU1 hT2 hU2 kU HTy2 HT2 HS2 HU2 K2
  go_upto_region 3 with fail
  generalize w2.setCell ⟨T + 1 + 1, 0, none⟩ (.string ⟨L.toArray⟩) = w3 at *
  have HSv3 : Hid (StV w3 (.agg #[.string ⟨s.type.toArray⟩, .slice e1 s.vals.length e4, .slice e2 s.done.length e5, .slice e3 s.got.length e6]) s) := StV.all HSv.out K3.out
  have HUv3 : Hid (StV w3 (.agg #[.string ⟨L.toArray⟩, .slice u1 u.vals.length u4, .slice u2 u.done.length u5, .slice u3 u.got.length u6]) { u with type := L }) := (StV.all HUv.out K3.out).typed rfl
  have cn := new_any HTy3.out HG0.out
  obtain ⟨s1, hs1⟩ : ∃ s1, s1 = newP t0 := ⟨_, rfl⟩
  have HF1 : Hid (Fit t0 s1) := by rw [hs1]; exact Fit.new HG0.out
  rw [← hs1] at cn
  have hT3 := HT3.out
  clear y0 y1 y2 y3 z0 z1 z2 z3 hs1 HSv HUv
  obtain ⟨⟨y0, y1, y2, y3⟩, _⟩ := four_cell hT3
  clear hT3
  go_wp2_with fail
  refine Calls.mono cn ?_
  rintro e w4 ⟨v4, rfl, ⟨va, vd, vg, rfl, hso⟩, k4⟩
  obtain ⟨n1, n4, n2, n5, n3, n6, rfl, rfl, rfl⟩ := hso.shapes
  obtain ⟨NT, hNT⟩ : ∃ NT, NT = s1.type := ⟨_, rfl⟩
  have HNT : Hid (NT = s1.type) := hNT
  rw [← hNT]
  have kb : Kept (fun _ => True) w4 (w4.alloc (.cells #[.string ⟨NT.toArray⟩, .slice n1 s1.vals.length n4, .slice n2 s1.done.length n5, .slice n3 s1.got.length n6] 31)) := (Kept.refl _ _).alloc _
  have HN5 : Hid _ := heap_alloc_new w4 (.cells #[.string ⟨NT.toArray⟩, .slice n1 s1.vals.length n4, .slice n2 s1.done.length n5, .slice n3 s1.got.length n6] 31)
  have HSo5 : Hid _ := hso.all kb
  have K5 : Hid (Kept (fun _ => True) w3 (w4.alloc (.cells #[.string ⟨NT.toArray⟩, .slice n1 s1.vals.length n4, .slice n2 s1.done.length n5, .slice n3 s1.got.length n6] 31))) := k4.trans kb
  have HNl : Hid (w3.heap.size ≤ w4.heap.size) := k4.size
  clear cn y0 y1 y2 y3 hso k4 kb hNT
  go_upto_region 4 with fail
  generalize w4.alloc (.cells #[.string ⟨NT.toArray⟩, .slice n1 s1.vals.length n4, .slice n2 s1.done.length n5, .slice n3 s1.got.length n6] 31) = w5 at *
  generalize w4.heap.size = NB at *
  have hN5 := HN5.out
  have hU5 := (K5.out.block _ (lt_of_block HU3.out) trivial).trans HU3.out
  have hsv : s1.vals.length ≤ 6 := by rw [HF1.out.sz.vals]; exact HG0.out.na
  have HFew1 : Hid (Few s1) := HF1.out.few HG0.out
  obtain ⟨⟨x0, x1, x2, x3⟩, _⟩ := four_cell hN5
  obtain ⟨⟨z0, z1, z2, z3⟩, _⟩ := four_cell hU5
  go_cut [24] from 15 to 23 (fun tb wx => ∃ q : Bool, tb = .bool q ∧ (q = true → 0 < s1.vals.length ∧ 0 < u.vals.length) ∧ w5 = wx)
  case first =>
    clear hN5 hU5
    by_cases hv : 0 < s1.vals.length
    · have v1 : (0 : Int) < (s1.vals.length : Int) := by omega
      by_cases hq : 0 < u.vals.length
      · have v2 : (0 : Int) < (u.vals.length : Int) := by omega
        have HB : Hid _ := And.intro hv hq
        go_wp2_with fail
        go_meet
        exact ⟨true, rfl, fun _ => HB.out, rfl⟩
      · have v2 : ¬ (0 : Int) < (u.vals.length : Int) := by omega
        go_wp2_with fail
        go_meet
        exact ⟨false, rfl, fun h => (by cases h), rfl⟩
    · have v1 : ¬ (0 : Int) < (s1.vals.length : Int) := by omega
      go_wp2_with fail
      go_meet
      exact ⟨false, rfl, fun h => (by cases h), rfl⟩
  case rest =>
  obtain ⟨q, rfl, hq, hw⟩ := hcut
  subst hw
  have HQb : Hid (q = true → 0 < s1.vals.length ∧ 0 < u.vals.length) := hq
  clear hq
  go_upto_if 24 with fail
  go_cut [] from 25 to 31 (fun wx => ∃ x : Sa, StV wx (.agg #[.string ⟨NT.toArray⟩, .slice n1 s1.vals.length n4, .slice n2 s1.done.length n5, .slice n3 s1.got.length n6]) x ∧ wx.heap[NB]? = some (.cells #[.string ⟨NT.toArray⟩, .slice n1 s1.vals.length n4, .slice n2 s1.done.length n5, .slice n3 s1.got.length n6] 31 (0, 0)) ∧ Kept (· < w3.heap.size) w3 wx)
  case first =>
    have HV0 : Hid (StV w5 (.agg #[.string ⟨NT.toArray⟩, .slice n1 s1.vals.length n4, .slice n2 s1.done.length n5, .slice n3 s1.got.length n6]) s1) := by
      have := HSo5.out.stv HFew1.out
      rw [← HNT.out] at this
      exact this
    cases q with
    | true =>
      obtain ⟨hv, hq⟩ := HQb.out rfl
      have v1 : (0 : Int) < (s1.vals.length : Int) := by omega
      have v2 : (0 : Int) < (u.vals.length : Int) := by omega
      have hrow := HSo5.out.vals
      obtain ⟨g, rfl⟩ : ∃ g, n1 = some ⟨g, 0, none⟩ := by
        obtain ⟨ao', cap', e, _, _, h0⟩ := own_form hrow
        cases e
        exact h0 hv
      have c0 := hrow.cellAt 0 (by omega)
      rw [show (iv s1.vals)[0]? = some (.int .i64 s1.vals[0]) by simp [iv, hv]] at c0
      have f0 := hrow.frozenAt 0
      have hgb := (hrow.lt g rfl)
      obtain ⟨_, _, _, eu, cu, _, _⟩ := HUv3.out
      cases eu
      obtain ⟨bu, ou, rfl, hbu, q0⟩ := cu.intAt 0 hq
      have hbg : bu ≠ g := fun e => by have := hgb.1; omega
      have q1 := (kept_cell K5.out hbu trivial).trans q0
      have hNg : NB ≠ g := fun e => own_off hrow hN5 (by decide) (by rw [e]; rfl)
      have hUg : T + 1 + 1 ≠ g := fun e => by have := hgb.1; have := lt_of_block HU3.out; omega
      have HEnd : Hid (∀ b : Int, (∃ x, StV (w5.setCell ⟨g, 0, none⟩ (.int .i64 b)) (.agg #[.string ⟨NT.toArray⟩, .slice (some ⟨g, 0, none⟩) s1.vals.length n4, .slice n2 s1.done.length n5, .slice n3 s1.got.length n6]) x) ∧ (w5.setCell ⟨g, 0, none⟩ (.int .i64 b)).heap[NB]? = some (.cells #[.string ⟨NT.toArray⟩, .slice (some ⟨g, 0, none⟩) s1.vals.length n4, .slice n2 s1.done.length n5, .slice n3 s1.got.length n6] 31 (0, 0)) ∧ Kept (· < w3.heap.size) w3 (w5.setCell ⟨g, 0, none⟩ (.int .i64 b))) := fun b => by
        obtain ⟨p1, p2⟩ := HSo5.out.setVal rfl 0 b
        have kg : Kept (· ≠ g) w5 (w5.setCell ⟨g, 0, none⟩ (.int .i64 b)) := (Kept.refl _ _).setCell (by simp) _
        have := p1.stv ⟨by simpa using HFew1.out.vals, HFew1.out.done, HFew1.out.got⟩
        rw [show ({ s1 with vals := s1.vals.set 0 b } : Sa).type = NT from HNT.out.symm] at this
        exact ⟨⟨_, this⟩, (kg.block _ (lt_of_block HN5.out) hNg).trans HN5.out, (K5.out.mono fun _ _ _ => trivial).trans p2⟩
      have X1' := fun W (q : Kept (· ≠ g) w5 W) => (kept_cell q (lt_of_block hN5) hNg).trans x1
      have Z1' := fun W (q : Kept (· ≠ g) w5 W) => (kept_cell q (lt_of_block hU5) hUg).trans z1
      have Q1' := fun W (q : Kept (· ≠ g) w5 W) => (kept_cell q (Nat.lt_of_lt_of_le hbu K5.out.size) hbg).trans q1
      simp only [Nat.add_zero] at Q1'
      have kd : Kept (· ≠ g) w5 w5.drew := (Kept.refl _ _).drew
      generalize u.vals[0] = ub at *
      generalize s1.vals[0] = sb at *
      go_upto_region 5 with fail
      clear x0 x1 x2 x3 z0 z1 z2 z3 hrow hgb cu hbu q0 q1 hbg hNg hUg hN5 hU5
      go_region_held3 (fun W => Kept (· ≠ g) w5 W) (first | assumption | exact Kept.drew (Kept.setCell (Kept.refl _ _) (by simp) _)) (fail)
      all_goals
        go_wp2_with fail
        go_meet
        obtain ⟨⟨x, hx⟩, h2, h3⟩ := HEnd.out ub
        exact ⟨x, StV.all hx ((Kept.refl _ _).drew), h2, h3.drew⟩
    | false =>
      clear hN5 hU5
      go_wp2_with fail
      go_meet
      exact ⟨s1, HV0.out, HN5.out, K5.out.mono fun _ _ _ => trivial⟩
  case rest =>
  obtain ⟨x, hVx, hNx, kx⟩ := hcut
  clear x0 x1 x2 x3 z0 z1 z2 z3 hN5 hU5 HSo5 HN5 K5
  have KW : Hid (Kept (fun _ => True) w wc) := K3.out.then kx (fun i hi _ => by have := K3.out.size; show i < _; omega)
  have hTx := (kx.block _ (lt_of_block HT3.out) (lt_of_block HT3.out)).trans HT3.out
  have hSx := (kx.block _ (lt_of_block HS3.out) (lt_of_block HS3.out)).trans HS3.out
  have hUx := (kx.block _ (lt_of_block HU3.out) (lt_of_block HU3.out)).trans HU3.out
  have HTx : Hid (TyV wc (.agg #[.string ⟨L.toArray⟩, .slice aa an ac, .slice sa sn sc, .slice ma mn mc]) t0) := HTy3.out.low kx
  obtain ⟨q1, hq1⟩ := Fq.some (t := t0) (StV.low HSv3.out kx)
  obtain ⟨q2, hq2⟩ := Fq.some (t := t0) (StV.low HUv3.out kx)
  obtain ⟨q3, hq3⟩ := Fq.some (t := t0) hVx
  have HQ1 : Hid _ := hq1
  have HQ2 : Hid _ := hq2
  have HQ3 : Hid _ := hq3
  have HCf : Hid (∀ v q, Fq wc t0 v q → ∀ W, Kept (fun _ => True) wc W → Calls Tryd.prog 22 #[.agg #[.string ⟨L.toArray⟩, .slice aa an ac, .slice sa sn sc, .slice ma mn mc], v] W fun e w' => e = .returned (.bool q) ∧ Kept (fun _ => True) W w') := fun v q h W k => fits_q HTx.out HG0.out h W k
  have HCr : Hid (∀ v q, Fq wc t0 v q → ∀ W, Kept (fun _ => True) wc W → Calls Tryd.prog 28 #[.agg #[.string ⟨L.toArray⟩, .slice aa an ac, .slice sa sn sc, .slice ma mn mc], v] W fun e w' => e = .returned (.bool q) ∧ Kept (fun _ => True) W w') := fun v q h W k => rfits_q HTx.out HG0.out h W k
  have HCk : Hid (∀ W, Kept (fun _ => True) wc W → Calls Tryd.prog 23 #[] W fun e w' => e = .returned (.bool true) ∧ Kept (fun _ => True) W w') := fun W k => known_any (HTb.out.all (KW.out.trans k))
  obtain ⟨⟨y0, y1, y2, y3⟩, _⟩ := four_cell hTx
  have Y0 := fun W (q : Kept (fun _ => True) wc W) => (kept_cell q (lt_of_block hTx) trivial).trans y0
  have Y1 := fun W (q : Kept (fun _ => True) wc W) => (kept_cell q (lt_of_block hTx) trivial).trans y1
  have Y2 := fun W (q : Kept (fun _ => True) wc W) => (kept_cell q (lt_of_block hTx) trivial).trans y2
  have Y3 := fun W (q : Kept (fun _ => True) wc W) => (kept_cell q (lt_of_block hTx) trivial).trans y3
  obtain ⟨⟨z0, z1, z2, z3⟩, _⟩ := four_cell hSx
  have Z0 := fun W (q : Kept (fun _ => True) wc W) => (kept_cell q (lt_of_block hSx) trivial).trans z0
  have Z1 := fun W (q : Kept (fun _ => True) wc W) => (kept_cell q (lt_of_block hSx) trivial).trans z1
  have Z2 := fun W (q : Kept (fun _ => True) wc W) => (kept_cell q (lt_of_block hSx) trivial).trans z2
  have Z3 := fun W (q : Kept (fun _ => True) wc W) => (kept_cell q (lt_of_block hSx) trivial).trans z3
  obtain ⟨⟨x0, x1, x2, x3⟩, _⟩ := four_cell hUx
  have X0 := fun W (q : Kept (fun _ => True) wc W) => (kept_cell q (lt_of_block hUx) trivial).trans x0
  have X1 := fun W (q : Kept (fun _ => True) wc W) => (kept_cell q (lt_of_block hUx) trivial).trans x1
  have X2 := fun W (q : Kept (fun _ => True) wc W) => (kept_cell q (lt_of_block hUx) trivial).trans x2
  have X3 := fun W (q : Kept (fun _ => True) wc W) => (kept_cell q (lt_of_block hUx) trivial).trans x3
  obtain ⟨⟨v0, v1, v2, v3⟩, _⟩ := four_cell hNx
  have V0 := fun W (q : Kept (fun _ => True) wc W) => (kept_cell q (lt_of_block hNx) trivial).trans v0
  have V1 := fun W (q : Kept (fun _ => True) wc W) => (kept_cell q (lt_of_block hNx) trivial).trans v1
  have V2 := fun W (q : Kept (fun _ => True) wc W) => (kept_cell q (lt_of_block hNx) trivial).trans v2
  have V3 := fun W (q : Kept (fun _ => True) wc W) => (kept_cell q (lt_of_block hNx) trivial).trans v3
  have kd : Kept (fun _ => True) wc wc.drew := (Kept.refl _ _).drew
  go_upto_region 6 with fail
  clear y0 y1 y2 y3 z0 z1 z2 z3 x0 x1 x2 x3 v0 v1 v2 v3 hTx hSx hUx hNx hVx kx hq1 hq2 hq3
  go_region_held3 (fun W => Kept (fun _ => True) wc W) (assumption) (first
    | (go_at_call 22; refine Calls.mono (HCf.out _ _ (by first | exact HQ1.out | exact HQ2.out | exact HQ3.out) _ (by assumption)) ?_; rintro e v5 ⟨rfl, m5⟩; have p5 : Kept (fun _ => True) wc v5 := Kept.trans (by assumption) m5; clear m5)
    | (go_at_call 28; refine Calls.mono (HCr.out _ _ (by first | exact HQ1.out | exact HQ2.out | exact HQ3.out) _ (by assumption)) ?_; rintro e v5 ⟨rfl, m5⟩; have p5 : Kept (fun _ => True) wc v5 := Kept.trans (by assumption) m5; clear m5)
    | (go_at_call 23; refine Calls.mono (HCk.out _ (by assumption)) ?_; rintro e v6 ⟨rfl, m6⟩; have p6 : Kept (fun _ => True) wc v6 := Kept.trans (by assumption) m6; clear m6))
  all_goals
    have HKf : Hid (Kept (fun _ => True) w v6) := KW.out.trans p6
    clear p6
    go_wp2_with fail
    go_ret
    exact ⟨rfl, HKf.out⟩

end Go.Proofs.YtnddpalngjmhnaaDoor
