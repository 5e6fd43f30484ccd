/-
  CasesPlays.
-/
import Derived.Test.YtnddpalngjmhnaaDoorVLw
import Derived.Test.YtnddpalngjmhnaaDoorVR7
import Derived.Test.YtnddpalngjmhnaaDoorVR8
namespace Go.Proofs.YtnddpalngjmhnaaDoor
open Go.RowKit

theorem rapply_to {w : World} {tv sv : Value} {t : Ty} {s : Sa} (ht : TyV w tv t) (hs : StV w sv s) (g : Good t) (f : Fit t s) (o : Oq) :
    Calls Tryd.prog 18 #[tv, sv, opV o] w fun e w' => ∃ va vd vg, e = .returned (.tuple #[.agg #[.string ⟨(applyP t s o).1.type.toArray⟩, va, vd, vg], .string ⟨(applyP t s o).2.1.toArray⟩, .int .i64 ((applyP t s o).2.2 : Nat)]) ∧ So w' w.heap.size va vd vg (applyP t s o).1 ∧ Kept (fun _ => True) w w' :=
  (rapply_any ht hs g f o).mono fun e w' h => by
    obtain ⟨v, rfl, ⟨va, vd, vg, rfl, hso⟩, k⟩ := h
    exact ⟨va, vd, vg, rfl, hso, k⟩
theorem apply_few {t : Ty} {s : Sa} (g : Good t) (f : Fit t s) (o : Oq) : Few (applyP t s o).1 := by
  by_cases h : (applyP t s o).2.2 = 0
  · exact (f.apply o h).few g
  · rw [((apply_facts t s o).2.1 h).1]
    exact ⟨by decide, by decide, by decide⟩
/-- What the law's variables hold: the type, the program's state, the document's. -/
structure Lp (w wr : World) (t : Ty) (s : Sa) (T S R : Nat) (L : List UInt8) (aa sa ma : Option Addr) (an ac sn sc mn mc : Nat) (a1 a2 a3 : Option Addr) (c1 c2 c3 : Nat) (b1 b2 b3 : Option Addr) (d1 d2 d3 : Nat) : Prop where
  p : Lw w wr t s T S L aa sa ma an ac sn sc mn mc a1 a2 a3 c1 c2 c3
  rbox : wr.heap[R]? = some (.cells #[.string ⟨s.type.toArray⟩, .slice b1 s.vals.length d1, .slice b2 s.done.length d2, .slice b3 s.got.length d3] 31 (0, 0))
  rstate : StV wr (.agg #[.string ⟨s.type.toArray⟩, .slice b1 s.vals.length d1, .slice b2 s.done.length d2, .slice b3 s.got.length d3]) s
  rlow : w.heap.size ≤ R ∧ T ≠ R ∧ S ≠ R
theorem Lp.all {w wr : World} {t : Ty} {s : Sa} {T S R : Nat} {L : List UInt8} {aa sa ma : Option Addr} {an ac sn sc mn mc : Nat} {a1 a2 a3 b1 b2 b3 : Option Addr} {c1 c2 c3 d1 d2 d3 : Nat} {wx : World} (h : Lp w wr t s T S R L aa sa ma an ac sn sc mn mc a1 a2 a3 c1 c2 c3 b1 b2 b3 d1 d2 d3) (k : Kept (fun _ => True) wr wx) : Lp w wx t s T S R L aa sa ma an ac sn sc mn mc a1 a2 a3 c1 c2 c3 b1 b2 b3 d1 d2 d3 :=
  ⟨h.p.all k, (k.block R (lt_of_block h.rbox) trivial).trans h.rbox, StV.all h.rstate k, h.rlow⟩
theorem Lp.put {w wr : World} {t : Ty} {s : Sa} {T S R : Nat} {L : List UInt8} {aa sa ma : Option Addr} {an ac sn sc mn mc : Nat} {a1 a2 a3 b1 b2 b3 : Option Addr} {c1 c2 c3 d1 d2 d3 : Nat} {x : Sa} {e1 e2 e3 g1 g2 g3 : Option Addr} {l1 l2 l3 m1 m2 m3 : Nat} (h : Lp w wr t s T S R L aa sa ma an ac sn sc mn mc a1 a2 a3 c1 c2 c3 b1 b2 b3 d1 d2 d3) (hx : StV wr (.agg #[.string ⟨x.type.toArray⟩, .slice e1 x.vals.length l1, .slice e2 x.done.length l2, .slice e3 x.got.length l3]) x) (hy : StV wr (.agg #[.string ⟨x.type.toArray⟩, .slice g1 x.vals.length m1, .slice g2 x.done.length m2, .slice g3 x.got.length m3]) x) (f : Fit t x) :
    Lp w (put4 (put4 wr S (.string ⟨x.type.toArray⟩) (.slice e1 x.vals.length l1) (.slice e2 x.done.length l2) (.slice e3 x.got.length l3)) R (.string ⟨x.type.toArray⟩) (.slice g1 x.vals.length m1) (.slice g2 x.done.length m2) (.slice g3 x.got.length m3)) t x T S R L aa sa ma an ac sn sc mn mc e1 e2 e3 l1 l2 l3 g1 g2 g3 m1 m2 m3 := by
  have h1 := h.p.put hx f
  have k1 := put4_kept (p := (· ≠ S)) (w := wr) (D := S) (by simp) (.string ⟨x.type.toArray⟩) (.slice e1 x.vals.length l1) (.slice e2 x.done.length l2) (.slice e3 x.got.length l3)
  have hR := (k1.block R (lt_of_block h.rbox) (Ne.symm h.rlow.2.2)).trans h.rbox
  have hy1 := StV.store hy h.p.sbox k1
  have k2 := put4_kept (p := (· ≠ R)) (w := put4 wr S (.string ⟨x.type.toArray⟩) (.slice e1 x.vals.length l1) (.slice e2 x.done.length l2) (.slice e3 x.got.length l3)) (D := R) (by simp) (.string ⟨x.type.toArray⟩) (.slice g1 x.vals.length m1) (.slice g2 x.done.length m2) (.slice g3 x.got.length m3)
  exact ⟨⟨(k2.block T (lt_of_block h1.tbox) h.rlow.2.1).trans h1.tbox, h1.type.store hR k2, (k2.block S (lt_of_block h1.sbox) h.rlow.2.2).trans h1.sbox, StV.store h1.state hR k2, f, h1.low, put4_new h1.kept h.rlow.1 _ _ _ _⟩, put4_at hR _ _ _ _, StV.store hy1 hR k2, h.rlow⟩

set_option maxRecDepth 100000 in
set_option maxHeartbeats 16000000 in
theorem casesPlays_any {w : World} {tv lv : Value} {t : Ty} {os : List Oq} (ht : TyV w tv t) (hz : Tsz t) (ho : Ov w lv os) (hTab : Tab w) : Calls Tryd.prog 4 #[tv, lv] w fun e w' => e = .returned (.bool true) ∧ Kept (fun _ => True) w w' := by
  have HTb : Hid (Tab w) := hTab
  have HOv : Hid (Ov w lv os) := ho
  have HTy : Hid (TyV w tv t) := ht
  obtain ⟨lo, lc, rfl, llen⟩ := ho.form
  obtain ⟨xa, xn, xc, ya, yn, yc, za, zn, zc, rfl⟩ := ht.parts
  have hT0 := heap_alloc_new w (.cells #[.string ⟨t.name.toArray⟩, .slice xa xn xc, .slice ya yn yc, .slice za zn zc] 25)
  have ka : Kept (fun _ => True) w (w.alloc (.cells #[.string ⟨t.name.toArray⟩, .slice xa xn xc, .slice ya yn yc, .slice za zn zc] 25)) := (Kept.refl _ _).alloc _
  have cr := rightL_any (HTy.out.all ka) hz
  obtain ⟨t0, ht0⟩ : ∃ t0, t0 = rightT t := ⟨_, rfl⟩
  have HG0 : Hid (Good t0) := by rw [ht0]; exact right_good t
  rw [← ht0] at cr
  have HT0 : Hid _ := hT0
  have K0 : Hid _ := ka
  obtain ⟨⟨y0, y1, y2, y3⟩, _⟩ := four_cell hT0
  clear hTab ho ht hz hT0 ka ht0
  go_enter Tryd.func4, Tryd.ntmps4
  go_wp2_with fail
  refine Calls.mono cr ?_
  rintro e w1 ⟨v1, rfl, hty1, k1⟩
  obtain ⟨aa, an, ac, sa, sn, sc, ma, mn, mc, rfl⟩ := hty1.parts
  obtain ⟨L, hL⟩ : ∃ L, L = t0.name := ⟨_, rfl⟩
  rw [← hL] at hty1 ⊢
  have hT1 := (k1.block _ (lt_of_block HT0.out) trivial).trans HT0.out
  obtain ⟨T, hTe⟩ : ∃ T, T = w.heap.size := ⟨_, rfl⟩
  rw [← hTe] at hT1 ⊢
  have HTe : Hid (T = w.heap.size) := hTe
  have K1 : Hid (Kept (fun _ => True) w w1) := K0.out.trans k1
  have kp := put4_kept (p := (· ≠ T)) (w := w1) (D := T) (by simp) (.string ⟨L.toArray⟩) (.slice aa an ac) (.slice sa sn sc) (.slice ma mn mc)
  have HTy2 : Hid (TyV (put4 w1 T (.string ⟨L.toArray⟩) (.slice aa an ac) (.slice sa sn sc) (.slice ma mn mc)) (.agg #[.string ⟨L.toArray⟩, .slice aa an ac, .slice sa sn sc, .slice ma mn mc]) t0) := hty1.store hT1 kp
  have HT2 : Hid ((put4 w1 T (.string ⟨L.toArray⟩) (.slice aa an ac) (.slice sa sn sc) (.slice ma mn mc)).heap[T]? = some (.cells #[.string ⟨L.toArray⟩, .slice aa an ac, .slice sa sn sc, .slice ma mn mc] 25 (0, 0))) := put4_at hT1 _ _ _ _
  have K2 : Hid (Kept (fun _ => True) w (put4 w1 T (.string ⟨L.toArray⟩) (.slice aa an ac) (.slice sa sn sc) (.slice ma mn mc))) := put4_new K1.out (by have := HTe.out; omega) _ _ _ _
  obtain ⟨⟨r0, r1, r2, r3⟩, _⟩ := four_cell hT1
  clear cr y0 y1 y2 y3 k1 hty1 hL hTe kp
  go_upto_region 2 with fail
  unfold put4 at HTy2 HT2 K2
  generalize (((w1.setCell ⟨T, 0, none⟩ (.string ⟨L.toArray⟩)).setCell ⟨T, 1, none⟩ (.slice aa an ac)).setCell ⟨T, 2, none⟩ (.slice sa sn sc)).setCell ⟨T, 3, none⟩ (.slice ma mn mc) = w2 at *
  have cn := new_any HTy2.out HG0.out
  obtain ⟨s1, hs1⟩ : ∃ s1, s1 = newP t0 := ⟨_, rfl⟩
  have HF1 : Hid (Fit t0 s1) := by rw [hs1]; exact Fit.new HG0.out
  have HNw : Hid (s1 = newP t0) := hs1
  rw [← hs1] at cn
  have hT2 := HT2.out
  clear r0 r1 r2 r3 hT1 hs1
  obtain ⟨⟨y0, y1, y2, y3⟩, _⟩ := four_cell hT2
  go_wp2_with fail
  refine Calls.mono cn ?_
  rintro e w3 ⟨v3, rfl, ho3, k3⟩
  have hst3 := ho3.view (HF1.out.few HG0.out)
  obtain ⟨a1, c1, a2, c2, a3, c3, rfl⟩ := hst3.parts
  have ka : Kept (fun _ => True) w3 (w3.alloc (.cells #[.string ⟨s1.type.toArray⟩, .slice a1 s1.vals.length c1, .slice a2 s1.done.length c2, .slice a3 s1.got.length c3] 31)) := (Kept.refl _ _).alloc _
  have hS := heap_alloc_new w3 (.cells #[.string ⟨s1.type.toArray⟩, .slice a1 s1.vals.length c1, .slice a2 s1.done.length c2, .slice a3 s1.got.length c3] 31)
  have hLw : Lw w (w3.alloc (.cells #[.string ⟨s1.type.toArray⟩, .slice a1 s1.vals.length c1, .slice a2 s1.done.length c2, .slice a3 s1.got.length c3] 31)) t0 s1 T w3.heap.size L aa sa ma an ac sn sc mn mc a1 a2 a3 c1 c2 c3 :=
    ⟨((k3.trans ka).block _ (lt_of_block HT2.out) trivial).trans HT2.out, HTy2.out.all (k3.trans ka), hS, hst3.all ka, HF1.out, ⟨Nat.le_trans K2.out.size k3.size, by have := lt_of_block HT2.out; have := k3.size; omega⟩, K2.out.trans (k3.trans ka)⟩
  have HLw : Hid _ := hLw
  clear cn y0 y1 y2 y3 ho3 hst3 k3 ka hS hLw hT2 HT2 HTy2 K2
  go_upto_region 3 with fail
  generalize w3.alloc (.cells #[.string ⟨s1.type.toArray⟩, .slice a1 s1.vals.length c1, .slice a2 s1.done.length c2, .slice a3 s1.got.length c3] 31) = w4 at *
  generalize w3.heap.size = S at *
  have cm := rnew_any HLw.out.type HG0.out
  rw [← HNw.out] at cm
  have hT4 := HLw.out.tbox
  obtain ⟨⟨y0, y1, y2, y3⟩, _⟩ := four_cell hT4
  clear hT4
  go_wp2_with fail
  refine Calls.mono cm ?_
  rintro e w5 ⟨v5, rfl, ho5, k5⟩
  have hst5 := ho5.view (HF1.out.few HG0.out)
  obtain ⟨b1, d1, b2, d2, b3, d3, rfl⟩ := hst5.parts
  have kb : Kept (fun _ => True) w5 (w5.alloc (.cells #[.string ⟨s1.type.toArray⟩, .slice b1 s1.vals.length d1, .slice b2 s1.done.length d2, .slice b3 s1.got.length d3] 31)) := (Kept.refl _ _).alloc _
  have hR := heap_alloc_new w5 (.cells #[.string ⟨s1.type.toArray⟩, .slice b1 s1.vals.length d1, .slice b2 s1.done.length d2, .slice b3 s1.got.length d3] 31)
  have HLp : Hid (Lp w (w5.alloc (.cells #[.string ⟨s1.type.toArray⟩, .slice b1 s1.vals.length d1, .slice b2 s1.done.length d2, .slice b3 s1.got.length d3] 31)) t0 s1 T S w5.heap.size L aa sa ma an ac sn sc mn mc a1 a2 a3 c1 c2 c3 b1 b2 b3 d1 d2 d3) :=
    ⟨HLw.out.all (k5.trans kb), hR, StV.all hst5 kb, ⟨Nat.le_trans HLw.out.kept.size k5.size, by have := lt_of_block HLw.out.tbox; have := k5.size; omega, by have := lt_of_block HLw.out.sbox; have := k5.size; omega⟩⟩
  clear cm y0 y1 y2 y3 ho5 hst5 k5 kb hR HLw
  go_upto_region 4 with fail
  generalize w5.alloc (.cells #[.string ⟨s1.type.toArray⟩, .slice b1 s1.vals.length d1, .slice b2 s1.done.length d2, .slice b3 s1.got.length d3] 31) = w6 at *
  generalize w5.heap.size = R at *
  have cs := state_same HLp.out.p.state HLp.out.rstate (HF1.out.few HG0.out)
  have hS6 := HLp.out.p.sbox
  have hR6 := HLp.out.rbox
  obtain ⟨⟨z0, z1, z2, z3⟩, _⟩ := four_cell hS6
  obtain ⟨⟨r0, r1, r2, r3⟩, _⟩ := four_cell hR6
  clear hS6 hR6
  go_wp2_with fail
  refine Calls.mono cs ?_
  rintro e w7 ⟨rfl, k7⟩
  have HL7 : Hid (Lp w w7 t0 s1 T S R L aa sa ma an ac sn sc mn mc a1 a2 a3 c1 c2 c3 b1 b2 b3 d1 d2 d3) := HLp.out.all k7
  clear cs z0 z1 z2 z3 r0 r1 r2 r3 k7 HLp
  go_wp2_with fail
  go_loopw [7, 8, 9, 10, 11, 12, 13] (fun ti _ _ _ _ _ _ wr => ∃ (i : Nat) (s : Sa) (a1 a2 a3 b1 b2 b3 : Option Addr) (c1 c2 c3 d1 d2 d3 : Nat), i ≤ os.length ∧ i ≤ 60 ∧ ti = .int .i64 i ∧ Lp w wr t0 s T S R L aa sa ma an ac sn sc mn mc a1 a2 a3 c1 c2 c3 b1 b2 b3 d1 d2 d3) (fun ti _ _ _ _ _ _ _ => 60 - (intOf ti).toNat)
  case atStart => exact ⟨0, s1, a1, a2, a3, b1, b2, b3, c1, c2, c3, d1, d2, d3, Nat.zero_le _, by omega, rfl, HL7.out⟩
  case round =>
  obtain ⟨i, s, a1, a2, a3, b1, b2, b3, c1, c2, c3, d1, d2, d3, hi, hi60, rfl, hlp⟩ := hrel
  have HLr : Hid (Lp w wr t0 s T S R L aa sa ma an ac sn sc mn mc a1 a2 a3 c1 c2 c3 b1 b2 b3 d1 d2 d3) := hlp
  by_cases hlt : i < os.length ∧ i < 60
  · obtain ⟨hlt, hlt2⟩ := hlt
    obtain ⟨b, off, rfl, hb, q0, q1, q2, q3⟩ := (HOv.out.all hlp.p.kept).at i hlt
    have i1 : (i : Int) < (os.length : Int) := by omega
    have i2 : (i : Int) < 60 := by omega
    have i0 : (0 : Int) ≤ (i : Int) := by omega
    have HOp : Hid (∀ W, Kept (fun _ => True) wr W → W.cell? ⟨b, off + i * 4, none⟩ = some (.int .i64 (os[i]).kind) ∧ W.cell? ⟨b, off + i * 4 + 1, none⟩ = some (.string ⟨(os[i]).cas.toArray⟩) ∧ W.cell? ⟨b, off + i * 4 + 2, none⟩ = some (.string ⟨(os[i]).name.toArray⟩) ∧ W.cell? ⟨b, off + i * 4 + 3, none⟩ = some (.int .i64 (os[i]).n)) := fun W k => ⟨(kept_cell k hb trivial).trans q0, (kept_cell k hb trivial).trans q1, (kept_cell k hb trivial).trans q2, (kept_cell k hb trivial).trans q3⟩
    generalize os[i] = op at *
    have hT5 := hlp.p.tbox
    have hS5 := hlp.p.sbox
    obtain ⟨⟨y0, y1, y2, y3⟩, _⟩ := four_cell hT5
    obtain ⟨⟨z0, z1, z2, z3⟩, _⟩ := four_cell hS5
    have Y0 := fun W (q : Kept (fun _ => True) wr W) => (kept_cell q (lt_of_block hT5) trivial).trans y0
    have Y1 := fun W (q : Kept (fun _ => True) wr W) => (kept_cell q (lt_of_block hT5) trivial).trans y1
    have Y2 := fun W (q : Kept (fun _ => True) wr W) => (kept_cell q (lt_of_block hT5) trivial).trans y2
    have Y3 := fun W (q : Kept (fun _ => True) wr W) => (kept_cell q (lt_of_block hT5) trivial).trans y3
    have Z0 := fun W (q : Kept (fun _ => True) wr W) => (kept_cell q (lt_of_block hS5) trivial).trans z0
    have Z1 := fun W (q : Kept (fun _ => True) wr W) => (kept_cell q (lt_of_block hS5) trivial).trans z1
    have Z2 := fun W (q : Kept (fun _ => True) wr W) => (kept_cell q (lt_of_block hS5) trivial).trans z2
    have Z3 := fun W (q : Kept (fun _ => True) wr W) => (kept_cell q (lt_of_block hS5) trivial).trans z3
    have O0 := fun W (q : Kept (fun _ => True) wr W) => (kept_cell q hb trivial).trans q0
    have O1 := fun W (q : Kept (fun _ => True) wr W) => (kept_cell q hb trivial).trans q1
    have O2 := fun W (q : Kept (fun _ => True) wr W) => (kept_cell q hb trivial).trans q2
    have O3 := fun W (q : Kept (fun _ => True) wr W) => (kept_cell q hb trivial).trans q3
    have kd : Kept (fun _ => True) wr wr.drew := (Kept.refl _ _).drew
    have HAp : Hid (∀ W, Kept (fun _ => True) wr W → Calls Tryd.prog 17 #[.agg #[.string ⟨L.toArray⟩, .slice aa an ac, .slice sa sn sc, .slice ma mn mc], .agg #[.string ⟨s.type.toArray⟩, .slice a1 s.vals.length c1, .slice a2 s.done.length c2, .slice a3 s.got.length c3], .agg #[.int .i64 op.kind, .string ⟨op.cas.toArray⟩, .string ⟨op.name.toArray⟩, .int .i64 op.n]] W fun e w' => ∃ va vd vg, e = .returned (.tuple #[.agg #[.string ⟨(applyP t0 s op).1.type.toArray⟩, va, vd, vg], .string ⟨(applyP t0 s op).2.1.toArray⟩, .int .i64 ((applyP t0 s op).2.2 : Nat)]) ∧ So w' W.heap.size va vd vg (applyP t0 s op).1 ∧ Kept (fun _ => True) W w') := fun W q => apply_to (HLr.out.p.type.all q) (HLr.out.p.state.all q) HG0.out HLr.out.p.fit (HTb.out.all (HLr.out.p.kept.trans q)) op
    clear y0 y1 y2 y3 z0 z1 z2 z3 q0 q1 q2 q3 hb hT5 hS5 hlp
    go_upto_region 9 with fail
    go_cut [8, 9, 10] from 34 to 44 (fun tA tB tC wx => ApR wr wx t0 s op tA tB tC)
    case first =>
      go_region_held3 (fun W => Kept (fun _ => True) wr W) (first | assumption | (repeat (first | exact Kept.refl _ _ | assumption | refine Kept.drew ?_ | refine Kept.alloc ?_ _ | refine Kept.setNew ?_ (by first | exact Nat.le_refl _ | exact p4.size | omega) _))) (first
        | (go_at_call 17; refine Calls.mono (HAp.out _ (by first | assumption | (repeat (first | exact Kept.refl _ _ | assumption | refine Kept.drew ?_ | refine Kept.alloc ?_ _ | refine Kept.setNew ?_ (by first | exact Nat.le_refl _ | exact p4.size | omega) _)))) ?_; rintro e v5 ⟨xa, xd, xg, rfl, hso, m5⟩; obtain ⟨b1, d1, b2, d2, b3, d3, rfl, rfl, rfl⟩ := hso.shapes; have HS5 : Hid _ := hso; have p5 : Kept (fun _ => True) wr v5 := Kept.trans (by first | assumption | (repeat (first | exact Kept.refl _ _ | assumption | refine Kept.drew ?_ | refine Kept.alloc ?_ _ | refine Kept.setNew ?_ (by first | exact Nat.le_refl _ | exact p4.size | omega) _))) m5; first | (have hz5 := (m5.block wr.heap.size (by simp) trivial).trans (heap_alloc_new wr.drew _); obtain ⟨⟨r0, r1, r2, r3⟩, e0, e1, e2, e3⟩ := four_cell hz5) | skip; clear m5 hso))
      all_goals
        go_wp2_with fail
        go_meet
        first
          | exact ⟨_, _, _, _, _, _, _, rfl, rfl, rfl, Ap.late p5 HS5.out (by first | exact Nat.le_refl _ | exact p4.size | simp)⟩
          | exact ⟨_, _, _, _, _, _, _, rfl, rfl, rfl, Ap.early p5 HS5.out hz5 (by first | exact Nat.le_refl _ | exact p4.size) (by first | exact lt_of_block hz4 | simp)⟩
    case rest =>
    obtain ⟨D1, e1, e2, e3, l1, l2, l3, rfl, rfl, rfl, hap⟩ := hcut
    clear Y0 Y1 Y2 Y3 Z0 Z1 Z2 Z3 O0 O1 O2 O3 kd HAp
    have HLc : Hid (Lp w wc t0 s T S R L aa sa ma an ac sn sc mn mc a1 a2 a3 c1 c2 c3 b1 b2 b3 d1 d2 d3) := HLr.out.all hap.kept
    have HBx1 : Hid _ := hap.box
    have HSo1 : Hid _ := hap.so
    have HKc1 : Hid (Kept (fun _ => True) wr wc) := hap.kept
    clear hap HLr
    obtain ⟨w8, hw8⟩ : ∃ w8, w8 = wc := ⟨_, rfl⟩
    rw [← hw8] at HLc HBx1 HSo1 HKc1 ⊢
    clear hw8
    have hT5 := HLc.out.p.tbox
    have hS5 := HLc.out.rbox
    obtain ⟨⟨y0, y1, y2, y3⟩, _⟩ := four_cell hT5
    obtain ⟨⟨z0, z1, z2, z3⟩, _⟩ := four_cell hS5
    have Y0 := fun W (q : Kept (fun _ => True) w8 W) => (kept_cell q (lt_of_block hT5) trivial).trans y0
    have Y1 := fun W (q : Kept (fun _ => True) w8 W) => (kept_cell q (lt_of_block hT5) trivial).trans y1
    have Y2 := fun W (q : Kept (fun _ => True) w8 W) => (kept_cell q (lt_of_block hT5) trivial).trans y2
    have Y3 := fun W (q : Kept (fun _ => True) w8 W) => (kept_cell q (lt_of_block hT5) trivial).trans y3
    have Z0 := fun W (q : Kept (fun _ => True) w8 W) => (kept_cell q (lt_of_block hS5) trivial).trans z0
    have Z1 := fun W (q : Kept (fun _ => True) w8 W) => (kept_cell q (lt_of_block hS5) trivial).trans z1
    have Z2 := fun W (q : Kept (fun _ => True) w8 W) => (kept_cell q (lt_of_block hS5) trivial).trans z2
    have Z3 := fun W (q : Kept (fun _ => True) w8 W) => (kept_cell q (lt_of_block hS5) trivial).trans z3
    have O0 := fun W (q : Kept (fun _ => True) w8 W) => (HOp.out W (HKc1.out.trans q)).1
    have O1 := fun W (q : Kept (fun _ => True) w8 W) => (HOp.out W (HKc1.out.trans q)).2.1
    have O2 := fun W (q : Kept (fun _ => True) w8 W) => (HOp.out W (HKc1.out.trans q)).2.2.1
    have O3 := fun W (q : Kept (fun _ => True) w8 W) => (HOp.out W (HKc1.out.trans q)).2.2.2
    have kd : Kept (fun _ => True) w8 w8.drew := (Kept.refl _ _).drew
    have HAp : Hid (∀ W, Kept (fun _ => True) w8 W → Calls Tryd.prog 18 #[.agg #[.string ⟨L.toArray⟩, .slice aa an ac, .slice sa sn sc, .slice ma mn mc], .agg #[.string ⟨s.type.toArray⟩, .slice b1 s.vals.length d1, .slice b2 s.done.length d2, .slice b3 s.got.length d3], .agg #[.int .i64 op.kind, .string ⟨op.cas.toArray⟩, .string ⟨op.name.toArray⟩, .int .i64 op.n]] W fun e w' => ∃ va vd vg, e = .returned (.tuple #[.agg #[.string ⟨(applyP t0 s op).1.type.toArray⟩, va, vd, vg], .string ⟨(applyP t0 s op).2.1.toArray⟩, .int .i64 ((applyP t0 s op).2.2 : Nat)]) ∧ So w' W.heap.size va vd vg (applyP t0 s op).1 ∧ Kept (fun _ => True) W w') := fun W q => rapply_to (HLc.out.p.type.all q) (StV.all HLc.out.rstate q) HG0.out HLc.out.p.fit op
    clear y0 y1 y2 y3 z0 z1 z2 z3 hT5 hS5
    go_upto_region 10 with fail
    go_cut [11, 12, 13] from 45 to 55 (fun tA tB tC wx => ApR w8 wx t0 s op tA tB tC)
    case first =>
      go_region_held3 (fun W => Kept (fun _ => True) w8 W) (first | assumption | (repeat (first | exact Kept.refl _ _ | assumption | refine Kept.drew ?_ | refine Kept.alloc ?_ _ | refine Kept.setNew ?_ (by first | exact Nat.le_refl _ | exact p4.size | omega) _))) (first
        | (go_at_call 18; refine Calls.mono (HAp.out _ (by first | assumption | (repeat (first | exact Kept.refl _ _ | assumption | refine Kept.drew ?_ | refine Kept.alloc ?_ _ | refine Kept.setNew ?_ (by first | exact Nat.le_refl _ | exact p4.size | omega) _)))) ?_; rintro e v5 ⟨xa, xd, xg, rfl, hso, m5⟩; obtain ⟨b1, d1, b2, d2, b3, d3, rfl, rfl, rfl⟩ := hso.shapes; have HS5 : Hid _ := hso; have p5 : Kept (fun _ => True) w8 v5 := Kept.trans (by first | assumption | (repeat (first | exact Kept.refl _ _ | assumption | refine Kept.drew ?_ | refine Kept.alloc ?_ _ | refine Kept.setNew ?_ (by first | exact Nat.le_refl _ | exact p4.size | omega) _))) m5; first | (have hz5 := (m5.block w8.heap.size (by simp) trivial).trans (heap_alloc_new w8.drew _); obtain ⟨⟨r0, r1, r2, r3⟩, e0, e1, e2, e3⟩ := four_cell hz5) | skip; clear m5 hso))
      all_goals
        go_wp2_with fail
        go_meet
        first
          | exact ⟨_, _, _, _, _, _, _, rfl, rfl, rfl, Ap.late p5 HS5.out (by first | exact Nat.le_refl _ | exact p4.size | simp)⟩
          | exact ⟨_, _, _, _, _, _, _, rfl, rfl, rfl, Ap.early p5 HS5.out hz5 (by first | exact Nat.le_refl _ | exact p4.size) (by first | exact lt_of_block hz4 | simp)⟩
    case rest =>
    obtain ⟨D2, g1, g2, g3, m1, m2, m3, rfl, rfl, rfl, hap⟩ := hcut
    clear Y0 Y1 Y2 Y3 Z0 Z1 Z2 Z3 O0 O1 O2 O3 kd HAp
    have HLd : Hid (Lp w wc t0 s T S R L aa sa ma an ac sn sc mn mc a1 a2 a3 c1 c2 c3 b1 b2 b3 d1 d2 d3) := HLc.out.all hap.kept
    have HFa : Hid ((applyP t0 s op).2.2 = 0 → Fit t0 (applyP t0 s op).1) := HLd.out.p.fit.apply op
    have HFw : Hid (Few (applyP t0 s op).1) := apply_few HG0.out HLd.out.p.fit op
    have hb1 := (hap.kept.block _ (lt_of_block HBx1.out) trivial).trans HBx1.out
    have hb2 := hap.box
    have hv1 := StV.all (HSo1.out.stv HFw.out) hap.kept
    have hv2 := hap.so.stv HFw.out
    have HSl : Hid (S < w8.heap.size ∧ w8.heap.size ≤ D2) := ⟨lt_of_block HLc.out.p.sbox, hap.low⟩
    clear hap HLc HBx1 HSo1 HKc1 HOp
    generalize applyP t0 s op = RR at *
    obtain ⟨X, tx, c⟩ := RR
    simp only at HFa HFw hb1 hb2 hv1 hv2 ⊢
    have HB1 : Hid _ := hb1
    have HB2 : Hid _ := hb2
    have HV1 : Hid _ := hv1
    have HV2 : Hid _ := hv2
    obtain ⟨⟨x0, x1, x2, x3⟩, _⟩ := four_cell hb1
    obtain ⟨⟨v0, v1, v2, v3⟩, _⟩ := four_cell hb2
    have cst := state_same hv1 hv2 HFw.out
    clear hb1 hb2 hv1 hv2
    go_wp2_with fail
    refine Calls.mono cst ?_
    rintro e w9 ⟨rfl, k9⟩
    have HL9 : Hid (Lp w w9 t0 s T S R L aa sa ma an ac sn sc mn mc a1 a2 a3 c1 c2 c3 b1 b2 b3 d1 d2 d3) := HLd.out.all k9
    have HB91 : Hid (w9.heap[D1]? = some (.cells #[.string ⟨X.type.toArray⟩, .slice e1 X.vals.length l1, .slice e2 X.done.length l2, .slice e3 X.got.length l3] 31 (0, 0))) := (k9.block _ (lt_of_block HB1.out) trivial).trans HB1.out
    have HB92 : Hid (w9.heap[D2]? = some (.cells #[.string ⟨X.type.toArray⟩, .slice g1 X.vals.length m1, .slice g2 X.done.length m2, .slice g3 X.got.length m3] 31 (0, 0))) := (k9.block _ (lt_of_block HB2.out) trivial).trans HB2.out
    have HV91 : Hid (StV w9 (.agg #[.string ⟨X.type.toArray⟩, .slice e1 X.vals.length l1, .slice e2 X.done.length l2, .slice e3 X.got.length l3]) X) := StV.all HV1.out k9
    have HV92 : Hid (StV w9 (.agg #[.string ⟨X.type.toArray⟩, .slice g1 X.vals.length m1, .slice g2 X.done.length m2, .slice g3 X.got.length m3]) X) := StV.all HV2.out k9
    clear cst x0 x1 x2 x3 v0 v1 v2 v3 k9 HB1 HB2 HV1 HV2 HLd
    go_upto_if 71 with fail
    go_cut [] from 70 to 73 (fun wx => ∃ (s : Sa) (a1 a2 a3 b1 b2 b3 : Option Addr) (c1 c2 c3 d1 d2 d3 : Nat), Lp w wx t0 s T S R L aa sa ma an ac sn sc mn mc a1 a2 a3 c1 c2 c3 b1 b2 b3 d1 d2 d3)
    case first =>
      by_cases hc0 : c = 0
      · subst hc0
        have hfit := HFa.out rfl
        have HLx : Hid _ := HL9.out.put HV91.out HV92.out hfit
        have hq1 := HB91.out
        have hq2 := HL9.out.p.sbox
        obtain ⟨⟨x0, x1, x2, x3⟩, _⟩ := four_cell hq1
        obtain ⟨⟨z0, z1, z2, z3⟩, _⟩ := four_cell hq2
        have k1 := put4_kept (p := (· ≠ S)) (w := w9) (D := S) (by simp) (.string ⟨X.type.toArray⟩) (.slice e1 X.vals.length l1) (.slice e2 X.done.length l2) (.slice e3 X.got.length l3)
        have hDS : D2 ≠ S := fun e => by
          have h1 := HB92.out
          have h2 := HSl.out
          omega
        have hR9 := (k1.block R (lt_of_block HL9.out.rbox) (Ne.symm HL9.out.rlow.2.2)).trans HL9.out.rbox
        have hD9 := (k1.block D2 (lt_of_block HB92.out) hDS).trans HB92.out
        have HR9 : Hid _ := hR9
        have HD9 : Hid _ := hD9
        clear hq1 hq2 hfit k1 hDS hR9 hD9
        unfold put4 at HLx HR9 HD9
        go_upto_region 15 with fail
        generalize (((w9.setCell ⟨S, 0, none⟩ (.string ⟨X.type.toArray⟩)).setCell ⟨S, 1, none⟩ (.slice e1 X.vals.length l1)).setCell ⟨S, 2, none⟩ (.slice e2 X.done.length l2)).setCell ⟨S, 3, none⟩ (.slice e3 X.got.length l3) = w10 at *
        clear x0 x1 x2 x3 z0 z1 z2 z3
        have hq3 := HD9.out
        have hq4 := HR9.out
        obtain ⟨⟨x0, x1, x2, x3⟩, _⟩ := four_cell hq3
        obtain ⟨⟨z0, z1, z2, z3⟩, _⟩ := four_cell hq4
        clear hq3 hq4
        go_wp2_with fail
        go_meet
        exact ⟨X, e1, e2, e3, g1, g2, g3, l1, l2, l3, m1, m2, m3, HLx.out⟩
      · have hc2 : ((c : Int) == 0) = false := by simp; omega
        clear hc0
        go_wp2_with fail
        go_meet
        exact ⟨s, a1, a2, a3, b1, b2, b3, c1, c2, c3, d1, d2, d3, HL9.out⟩
    case rest =>
    clear HFa HFw HB91 HB92 HV91 HV92 HL9
    obtain ⟨x, a1, a2, a3, b1, b2, b3, c1, c2, c3, d1, d2, d3, hlx⟩ := hcut
    have HLx : Hid (Lp w wc t0 x T S R L aa sa ma an ac sn sc mn mc a1 a2 a3 c1 c2 c3 b1 b2 b3 d1 d2 d3) := hlx
    have hT6 := hlx.p.tbox
    have hS6 := hlx.p.sbox
    have hR6 := hlx.rbox
    have HC1 : Hid (∀ W, Kept (fun _ => True) wc W → Calls Tryd.prog 20 #[.agg #[.string ⟨L.toArray⟩, .slice aa an ac, .slice sa sn sc, .slice ma mn mc], .agg #[.string ⟨x.type.toArray⟩, .slice a1 x.vals.length c1, .slice a2 x.done.length c2, .slice a3 x.got.length c3]] W fun e w' => e = .returned (.string ⟨(textP t0 x).toArray⟩) ∧ Kept (fun _ => True) W w') := fun W q => text_any (HLx.out.p.type.all q) (HLx.out.p.state.all q) HG0.out HLx.out.p.fit (HTb.out.all (HLx.out.p.kept.trans q)) (text_short HG0.out HLx.out.p.fit)
    have HC2 : Hid (∀ W, Kept (fun _ => True) wc W → Calls Tryd.prog 25 #[.agg #[.string ⟨L.toArray⟩, .slice aa an ac, .slice sa sn sc, .slice ma mn mc], .agg #[.string ⟨x.type.toArray⟩, .slice b1 x.vals.length d1, .slice b2 x.done.length d2, .slice b3 x.got.length d3]] W fun e w' => e = .returned (.string ⟨(textP t0 x).toArray⟩) ∧ Kept (fun _ => True) W w') := fun W q => rtext_any (HLx.out.p.type.all q) (StV.all HLx.out.rstate q) HG0.out HLx.out.p.fit
    have HC3 : Hid (∀ W, Kept (fun _ => True) wc W → Calls Tryd.prog 21 #[.agg #[.string ⟨L.toArray⟩, .slice aa an ac, .slice sa sn sc, .slice ma mn mc], .agg #[.string ⟨x.type.toArray⟩, .slice a1 x.vals.length c1, .slice a2 x.done.length c2, .slice a3 x.got.length c3]] W fun e w' => ∃ v, e = .returned v ∧ Txs w' W.heap.size v (readyP t0 x) ∧ Kept (fun _ => True) W w') := fun W q => readys_any (HLx.out.p.type.all q) (HLx.out.p.state.all q) HG0.out HLx.out.p.fit
    have HC4 : Hid (∀ W, Kept (fun _ => True) wc W → Calls Tryd.prog 27 #[.agg #[.string ⟨L.toArray⟩, .slice aa an ac, .slice sa sn sc, .slice ma mn mc], .agg #[.string ⟨x.type.toArray⟩, .slice b1 x.vals.length d1, .slice b2 x.done.length d2, .slice b3 x.got.length d3]] W fun e w' => ∃ v, e = .returned v ∧ Txs w' W.heap.size v (readyP t0 x) ∧ Kept (fun _ => True) W w') := fun W q => rready_any (HLx.out.p.type.all q) (StV.all HLx.out.rstate q) HG0.out HLx.out.p.fit
    have HC5 : Hid (∀ W, Kept (fun _ => True) wc W → Calls Tryd.prog 22 #[.agg #[.string ⟨L.toArray⟩, .slice aa an ac, .slice sa sn sc, .slice ma mn mc], .agg #[.string ⟨x.type.toArray⟩, .slice a1 x.vals.length c1, .slice a2 x.done.length c2, .slice a3 x.got.length c3]] W fun e w' => e = .returned (.bool true) ∧ Kept (fun _ => True) W w') := fun W q => (fits_any (HLx.out.p.type.all q) (HLx.out.p.state.all q) HG0.out).mono fun e w' ⟨⟨q, he, hq⟩, k⟩ => ⟨by rw [he, hq.2 HLx.out.p.fit], k⟩
    have hrl : (readyP t0 x).length ≤ 6 := by
      unfold readyP
      rw [List.length_map]
      refine Nat.le_trans (List.length_filter_le _ _) ?_
      rw [List.length_zip]
      have := HG0.out.ns
      omega
    have HRl : Hid ((readyP t0 x).length ≤ 6) := hrl
    generalize readyP t0 x = rs at *
    generalize textP t0 x = TX at *
    obtain ⟨⟨y0, y1, y2, y3⟩, _⟩ := four_cell hT6
    obtain ⟨⟨z0, z1, z2, z3⟩, _⟩ := four_cell hS6
    obtain ⟨⟨r0, r1, r2, r3⟩, _⟩ := four_cell hR6
    have Y0 := fun W (q : Kept (fun _ => True) wc W) => (kept_cell q (lt_of_block hT6) trivial).trans y0
    have Y1 := fun W (q : Kept (fun _ => True) wc W) => (kept_cell q (lt_of_block hT6) trivial).trans y1
    have Y2 := fun W (q : Kept (fun _ => True) wc W) => (kept_cell q (lt_of_block hT6) trivial).trans y2
    have Y3 := fun W (q : Kept (fun _ => True) wc W) => (kept_cell q (lt_of_block hT6) trivial).trans y3
    have Z0 := fun W (q : Kept (fun _ => True) wc W) => (kept_cell q (lt_of_block hS6) trivial).trans z0
    have Z1 := fun W (q : Kept (fun _ => True) wc W) => (kept_cell q (lt_of_block hS6) trivial).trans z1
    have Z2 := fun W (q : Kept (fun _ => True) wc W) => (kept_cell q (lt_of_block hS6) trivial).trans z2
    have Z3 := fun W (q : Kept (fun _ => True) wc W) => (kept_cell q (lt_of_block hS6) trivial).trans z3
    have R0 := fun W (q : Kept (fun _ => True) wc W) => (kept_cell q (lt_of_block hR6) trivial).trans r0
    have R1 := fun W (q : Kept (fun _ => True) wc W) => (kept_cell q (lt_of_block hR6) trivial).trans r1
    have R2 := fun W (q : Kept (fun _ => True) wc W) => (kept_cell q (lt_of_block hR6) trivial).trans r2
    have R3 := fun W (q : Kept (fun _ => True) wc W) => (kept_cell q (lt_of_block hR6) trivial).trans r3
    have kd : Kept (fun _ => True) wc wc.drew := (Kept.refl _ _).drew
    clear y0 y1 y2 y3 z0 z1 z2 z3 r0 r1 r2 r3 hT6 hS6 hR6 hlx hrl
    go_upto_region 16 with fail
    go_region_held3 (fun W => Kept (fun _ => True) wc W) (assumption) (first
      | (go_at_call 20; refine Calls.mono (HC1.out _ (by assumption)) ?_; rintro e q1 ⟨rfl, m1⟩; have p1 : Kept (fun _ => True) wc q1 := Kept.trans (by assumption) m1; clear m1)
      | (go_at_call 25; refine Calls.mono (HC2.out _ (by assumption)) ?_; rintro e q2 ⟨rfl, m2⟩; have p2 : Kept (fun _ => True) wc q2 := Kept.trans (by assumption) m2; clear m2)
      | (go_at_call 21; refine Calls.mono (HC3.out _ (by assumption)) ?_; rintro e q3 ⟨n3, rfl, t3, m3⟩; obtain ⟨ra, rc, rfl, _, _⟩ := t3.shape; have HN3 : Hid (Txs q3 0 (.slice ra rs.length rc) rs) := ownsRow_low t3 (Nat.zero_le _); have p3 : Kept (fun _ => True) wc q3 := Kept.trans (by assumption) m3; clear m3 t3)
      | (go_at_call 27; refine Calls.mono (HC4.out _ (by assumption)) ?_; rintro e q4 ⟨n4, rfl, t4, m4⟩; obtain ⟨rb, rd, rfl, _, _⟩ := t4.shape; have HN4 : Hid (Txs q4 0 (.slice rb rs.length rd) rs) := ownsRow_low t4 (Nat.zero_le _); have HN5 : Hid (Txs q4 0 (.slice ra rs.length rc) rs) := Txs.kept (p := fun _ => True) HN3.out m4 (fun _ _ => trivial); have p4 : Kept (fun _ => True) wc q4 := Kept.trans (by assumption) m4; clear m4 t4)
      | (go_at_call 26; refine Calls.mono (texts_same HN5.out HN4.out (by have := HRl.out; omega)) ?_; rintro e q5 ⟨rfl, m5⟩; have p5 : Kept (fun _ => True) wc q5 := Kept.trans (by assumption) m5; clear m5)
      | (go_at_call 22; refine Calls.mono (HC5.out _ (by assumption)) ?_; rintro e q6 ⟨rfl, m6⟩; have p6 : Kept (fun _ => True) wc q6 := Kept.trans (by assumption) m6; clear m6))
    all_goals
      have HLn : Hid (Lp w q6 t0 x T S R L aa sa ma an ac sn sc mn mc a1 a2 a3 c1 c2 c3 b1 b2 b3 d1 d2 d3) := HLx.out.all p6
      clear p6
      go_wp2_with fail
      go_roundw
      case rel => exact ⟨i + 1, x, a1, a2, a3, b1, b2, b3, c1, c2, c3, d1, d2, d3, by omega, by omega, by go_num, HLn.out⟩
      case measure => simp [intOf]; omega
  · have hor : ¬ i < os.length ∨ (i < os.length ∧ ¬ i < 60) := by omega
    have ckn := known_any (HTb.out.all hlp.p.kept)
    have HKf : Hid (Kept (fun _ => True) w wr) := hlp.p.kept
    clear hlp hlt
    rcases hor with h1 | ⟨h1, h2⟩
    · have i1 : ¬ (i : Int) < (os.length : Int) := by omega
      go_wp2_with fail
      refine Calls.mono ckn ?_
      rintro e w10 ⟨rfl, k10⟩
      go_wp2_with fail
      go_ret
      exact ⟨rfl, HKf.out.trans k10⟩
    · have i1 : (i : Int) < (os.length : Int) := by omega
      have i2 : ¬ (i : Int) < 60 := by omega
      go_wp2_with fail
      refine Calls.mono ckn ?_
      rintro e w10 ⟨rfl, k10⟩
      go_wp2_with fail
      go_ret
      exact ⟨rfl, HKf.out.trans k10⟩

  end Go.Proofs.YtnddpalngjmhnaaDoor