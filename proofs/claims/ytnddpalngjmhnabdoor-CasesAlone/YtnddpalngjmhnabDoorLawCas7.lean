/-
  CasesAlone.
-/
import Derived.Test.YtnddpalngjmhnabDoorVLw
import Derived.Test.YtnddpalngjmhnabDoorVAl
namespace Go.Proofs.YtnddpalngjmhnabDoor
open Go.RowKit

theorem alone_letters : ∃ t0 : Ty, Good t0 ∧ Fit t0 (newP t0) ∧ (∀ w, Calls Tryd.prog 4 #[] w fun e w' => ∃ g a s m b, e = .returned (.slice (some ⟨g, 0, none⟩) 2 2) ∧ w'.heap[g]? = some (.cells #[.string ⟨t0.name.toArray⟩, a, s, m, .string ⟨count.name.toArray⟩, b, .slice none 0 0, .slice none 0 0] 26 (0, 0)) ∧ TyV w' (.agg #[.string ⟨t0.name.toArray⟩, a, s, m]) t0 ∧ Kept (fun _ => True) w w') ∧
    (∀ s, Fit t0 s → ∃ ty p q d0 d1 h0 h1 h2, s = ⟨ty, [p, q], [d0, d1], [h0, h1, h2]⟩ ∧ -1000 ≤ q ∧ q ≤ 1000) ∧
    (∀ (ty : List UInt8) (p q n : Int) (ds gs : List Bool) (c : List UInt8), -30 ≤ n → n ≤ 30 → applyP t0 ⟨ty, [p, q], ds, gs⟩ ⟨3, c, [114, 105, 115, 107], n⟩ = applyP t0 ⟨ty, [p, q], ds, gs⟩ ⟨2, c, [114, 105, 115, 107], q + n⟩) ∧
    (∀ (ty : List UInt8) (p q N : Int) (ds gs : List Bool) (c : List UInt8) (X : Sa) (tx : List UInt8), applyP t0 ⟨ty, [p, q], ds, gs⟩ ⟨2, c, [114, 105, 115, 107], N⟩ = (X, tx, 0) → X.vals = [p, N] ∧ X.done = ds) ∧
    (∀ (ty : List UInt8) (p q : Int) (d0 d1 g0 g1 g2 : Bool) (c : List UInt8) (Z : Sa) (tx : List UInt8), applyP t0 ⟨ty, [p, q], [d0, d1], [g0, g1, g2]⟩ ⟨4, c, [112, 97, 121], 0⟩ = (Z, tx, 0) → ∃ k1 k2, Z = ⟨Z.type, [p, q], [d0, true], [true, k1, k2]⟩) :=
  ⟨loan, loan_good, Fit.new loan_good, fun w => (types_any (w := w)).mono fun e w' h => by
      obtain ⟨g, a, s, m, b, h1, h2, h3, _, h5⟩ := h
      exact ⟨g, a, s, m, b, h1, h2, h3, h5⟩,
    fun _ f => loan_shape f, fun _ _ _ _ _ _ c h1 h2 => add_is_set c h1 h2, fun _ _ _ _ _ _ c _ _ h => set_alone c h, fun _ _ _ _ _ _ _ _ c _ _ h => fire_alone c h⟩
/-- The rows of a loan's state. -/
theorem st_rows {w : World} {t : Value} {a1 a2 a3 : Option Addr} {n1 n2 n3 c1 c2 c3 : Nat} {ty : List UInt8} {p q : Int} {d0 d1 : Bool} {gs : List Bool} (h : StV w (.agg #[t, .slice a1 n1 c1, .slice a2 n2 c2, .slice a3 n3 c3]) ⟨ty, [p, q], [d0, d1], gs⟩) :
    ∃ v1 o1 v2 o2, a1 = some ⟨v1, o1, none⟩ ∧ a2 = some ⟨v2, o2, none⟩ ∧ v1 < w.heap.size ∧ v2 < w.heap.size ∧ w.cell? ⟨v1, o1, none⟩ = some (.int .i64 p) ∧ w.cell? ⟨v1, o1 + 1, none⟩ = some (.int .i64 q) ∧ w.cell? ⟨v2, o2, none⟩ = some (.bool d0) ∧ w.cell? ⟨v2, o2 + 1, none⟩ = some (.bool d1) ∧
      Cv w (.slice a1 n1 c1) (iv [p, q]) ∧ Cv w (.slice a2 n2 c2) (bv [d0, d1]) ∧ Cv w (.slice a3 n3 c3) (bv gs) := by
  obtain ⟨_, vd, vg, e, h1, h2, h3⟩ := h
  cases e
  obtain ⟨v1, o1, e1, b1, x0⟩ := Cv.intAt (xs := [p, q]) h1 0 (by simp)
  obtain ⟨v1', o1', e1', _, x1⟩ := Cv.intAt (xs := [p, q]) h1 1 (by simp)
  obtain ⟨v2, o2, e2, b2, y0⟩ := Cv.boolAt (xs := [d0, d1]) h2 0 (by simp)
  obtain ⟨v2', o2', e2', _, y1⟩ := Cv.boolAt (xs := [d0, d1]) h2 1 (by simp)
  rw [e1] at e1'
  cases e1'
  rw [e2] at e2'
  cases e2'
  exact ⟨v1, o1, v2, o2, e1, e2, b1, b2, x0, x1, y0, y1, h1, h2, h3⟩

set_option maxRecDepth 100000 in
set_option maxHeartbeats 16000000 in
theorem casesAlone_any {w : World} {lv : Value} {os : List Oq} {nn : Int} (ho : Ov w lv os) (hTab : Tab w) : Calls Tryd.prog 3 #[lv, .int .i64 nn] w fun e w' => e = .returned (.bool true) ∧ Kept (fun _ => True) w w' := by
  have HTb : Hid (Tab w) := hTab
  have HOv : Hid (Ov w lv os) := ho
  obtain ⟨lo, lc, rfl, llen⟩ := ho.form
  clear hTab ho
  obtain ⟨t0, g0, f1, hTypes, hshape, hadd, hset, hfire⟩ := alone_letters
  have HG0 : Hid (Good t0) := g0
  have HShp : Hid _ := hshape
  have HAdd : Hid _ := hadd
  have HSet : Hid _ := hset
  have HFir : Hid _ := hfire
  have ct := hTypes w
  obtain ⟨s1, hs1⟩ : ∃ s1, s1 = newP t0 := ⟨_, rfl⟩
  have HNw : Hid (s1 = newP t0) := hs1
  rw [← hs1] at f1
  have HF1 : Hid (Fit t0 s1) := f1
  clear g0 f1 hTypes hshape hadd hset hfire hs1
  go_enter Tryd.func3, Tryd.ntmps3
  go_wp2_with fail
  refine Calls.mono ct ?_
  rintro e w1 ⟨g, a, s, m, b, rfl, hg, hl, k1⟩
  obtain ⟨aa, an, ac, sa, sn, sc, ma, mn, mc, he⟩ := hl.parts
  simp only [Value.agg.injEq, Array.mk.injEq, List.cons.injEq, and_true, true_and] at he
  obtain ⟨rfl, rfl, rfl⟩ := he
  have l0 : w1.cell? ⟨g, 0, none⟩ = some (.string ⟨t0.name.toArray⟩) := by simp [World.cell?, hg]
  have l1 : w1.cell? ⟨g, 1, none⟩ = some (.slice aa an ac) := by simp [World.cell?, hg]
  have l2 : w1.cell? ⟨g, 2, none⟩ = some (.slice sa sn sc) := by simp [World.cell?, hg]
  have l3 : w1.cell? ⟨g, 3, none⟩ = some (.slice ma mn mc) := by simp [World.cell?, hg]
  obtain ⟨L, hL⟩ : ∃ L, L = t0.name := ⟨_, rfl⟩
  rw [← hL] at l0 hl
  have ka : Kept (fun _ => True) w1 (w1.alloc (.cells #[.string ⟨L.toArray⟩, .slice aa an ac, .slice sa sn sc, .slice ma mn mc] 26)) := (Kept.refl _ _).alloc _
  have hT := heap_alloc_new w1 (.cells #[.string ⟨L.toArray⟩, .slice aa an ac, .slice sa sn sc, .slice ma mn mc] 26)
  have HT2 : Hid _ := hT
  have K2 : Hid (Kept (fun _ => True) w _) := k1.trans ka
  have HTy2 : Hid (TyV _ (.agg #[.string ⟨L.toArray⟩, .slice aa an ac, .slice sa sn sc, .slice ma mn mc]) t0) := hl.all ka
  have cn := new_any HTy2.out HG0.out
  rw [← HNw.out] at cn
  obtain ⟨⟨y0, y1, y2, y3⟩, _⟩ := four_cell hT
  clear ct hg hl k1 ka hT hL
  go_wp2_with fail
  generalize w1.alloc (.cells #[.string ⟨L.toArray⟩, .slice aa an ac, .slice sa sn sc, .slice ma mn mc] 26) = w2 at *
  generalize w1.heap.size = T at *
  refine Calls.mono cn ?_
  rintro e w3 ⟨v3, rfl, ho3, k3⟩
  have hst3 := ho3.view (HF1.out.few HG0.out)
  obtain ⟨a1, c1, a2, c2, a3, c3, rfl⟩ := hst3.parts
  have ka : Kept (fun _ => True) w3 (w3.alloc (.cells #[.string ⟨s1.type.toArray⟩, .slice a1 s1.vals.length c1, .slice a2 s1.done.length c2, .slice a3 s1.got.length c3] 32)) := (Kept.refl _ _).alloc _
  have hS := heap_alloc_new w3 (.cells #[.string ⟨s1.type.toArray⟩, .slice a1 s1.vals.length c1, .slice a2 s1.done.length c2, .slice a3 s1.got.length c3] 32)
  have HLw : Hid (Lw w (w3.alloc (.cells #[.string ⟨s1.type.toArray⟩, .slice a1 s1.vals.length c1, .slice a2 s1.done.length c2, .slice a3 s1.got.length c3] 32)) t0 s1 T w3.heap.size L aa sa ma an ac sn sc mn mc a1 a2 a3 c1 c2 c3) :=
    ⟨((k3.trans ka).block _ (lt_of_block HT2.out) trivial).trans HT2.out, HTy2.out.all (k3.trans ka), hS, hst3.all ka, HF1.out, ⟨Nat.le_trans K2.out.size k3.size, by have := lt_of_block HT2.out; have := k3.size; omega⟩, K2.out.trans (k3.trans ka)⟩
  clear cn y0 y1 y2 y3 l0 l1 l2 l3 ho3 hst3 k3 ka hS HT2 HTy2 K2
  go_upto_region 3 with fail
  generalize w3.alloc (.cells #[.string ⟨s1.type.toArray⟩, .slice a1 s1.vals.length c1, .slice a2 s1.done.length c2, .slice a3 s1.got.length c3] 32) = w4 at *
  generalize w3.heap.size = S at *
  go_wp2_with fail
  go_loopw [7, 8, 9, 10] (fun ti _ _ _ wr => ∃ (i : Nat) (s : Sa) (a1 a2 a3 : Option Addr) (c1 c2 c3 : Nat), i ≤ os.length ∧ i ≤ 20 ∧ ti = .int .i64 i ∧ Lw w wr t0 s T S L aa sa ma an ac sn sc mn mc a1 a2 a3 c1 c2 c3) (fun ti _ _ _ _ => 20 - (intOf ti).toNat)
  case atStart => exact ⟨0, s1, a1, a2, a3, c1, c2, c3, Nat.zero_le _, by omega, rfl, HLw.out⟩
  case round =>
  obtain ⟨i, s, a1, a2, a3, c1, c2, c3, hi, hi20, rfl, hlw⟩ := hrel
  have HLr : Hid (Lw w wr t0 s T S L aa sa ma an ac sn sc mn mc a1 a2 a3 c1 c2 c3) := hlw
  clear HLw
  by_cases hlt : i < os.length ∧ i < 20
  · obtain ⟨hlt, hlt2⟩ := hlt
    obtain ⟨b, off, rfl, hb, q0, q1, q2, q3⟩ := (HOv.out.all hlw.kept).at i hlt
    have i1 : (i : Int) < (os.length : Int) := by omega
    have i2 : (i : Int) < 20 := by omega
    have i0 : (0 : Int) ≤ (i : Int) := by omega
    generalize os[i] = op at *
    have hT5 := hlw.tbox
    have hS5 := hlw.sbox
    obtain ⟨⟨y0, y1, y2, y3⟩, _⟩ := four_cell hT5
    obtain ⟨⟨z0, z1, z2, z3⟩, _⟩ := four_cell hS5
    have Y0 := fun W (q : Kept (fun _ => True) wr W) => (kept_cell q (lt_of_block hT5) trivial).trans y0
    have Y1 := fun W (q : Kept (fun _ => True) wr W) => (kept_cell q (lt_of_block hT5) trivial).trans y1
    have Y2 := fun W (q : Kept (fun _ => True) wr W) => (kept_cell q (lt_of_block hT5) trivial).trans y2
    have Y3 := fun W (q : Kept (fun _ => True) wr W) => (kept_cell q (lt_of_block hT5) trivial).trans y3
    have Z0 := fun W (q : Kept (fun _ => True) wr W) => (kept_cell q (lt_of_block hS5) trivial).trans z0
    have Z1 := fun W (q : Kept (fun _ => True) wr W) => (kept_cell q (lt_of_block hS5) trivial).trans z1
    have Z2 := fun W (q : Kept (fun _ => True) wr W) => (kept_cell q (lt_of_block hS5) trivial).trans z2
    have Z3 := fun W (q : Kept (fun _ => True) wr W) => (kept_cell q (lt_of_block hS5) trivial).trans z3
    have O0 := fun W (q : Kept (fun _ => True) wr W) => (kept_cell q hb trivial).trans q0
    have O1 := fun W (q : Kept (fun _ => True) wr W) => (kept_cell q hb trivial).trans q1
    have O2 := fun W (q : Kept (fun _ => True) wr W) => (kept_cell q hb trivial).trans q2
    have O3 := fun W (q : Kept (fun _ => True) wr W) => (kept_cell q hb trivial).trans q3
    have kd : Kept (fun _ => True) wr wr.drew := (Kept.refl _ _).drew
    have HAp : Hid (∀ W, Kept (fun _ => True) wr W → Calls Tryd.prog 6 #[.agg #[.string ⟨L.toArray⟩, .slice aa an ac, .slice sa sn sc, .slice ma mn mc], .agg #[.string ⟨s.type.toArray⟩, .slice a1 s.vals.length c1, .slice a2 s.done.length c2, .slice a3 s.got.length c3], .agg #[.int .i64 op.kind, .string ⟨op.cas.toArray⟩, .string ⟨op.name.toArray⟩, .int .i64 op.n]] W fun e w' => ∃ va vd vg, e = .returned (.tuple #[.agg #[.string ⟨(applyP t0 s op).1.type.toArray⟩, va, vd, vg], .string ⟨(applyP t0 s op).2.1.toArray⟩, .int .i64 ((applyP t0 s op).2.2 : Nat)]) ∧ So w' W.heap.size va vd vg (applyP t0 s op).1 ∧ Kept (fun _ => True) W w') := fun W q => apply_to (HLr.out.type.all q) (HLr.out.state.all q) HG0.out HLr.out.fit (HTb.out.all (HLr.out.kept.trans q)) op
    clear y0 y1 y2 y3 z0 z1 z2 z3 q0 q1 q2 q3 hb hT5 hS5 hlw
    go_upto_region 6 with fail
    go_cut [8, 9, 10] from 35 to 45 (fun tA tB tC wx => ApR wr wx t0 s op tA tB tC)
    case first =>
      go_region_held3 (fun W => Kept (fun _ => True) wr W) (first | assumption | (repeat (first | exact Kept.refl _ _ | assumption | refine Kept.drew ?_ | refine Kept.alloc ?_ _ | refine Kept.setNew ?_ (by first | exact Nat.le_refl _ | exact p4.size | omega) _))) (first
        | (go_at_call 6; refine Calls.mono (HAp.out _ (by first | assumption | (repeat (first | exact Kept.refl _ _ | assumption | refine Kept.drew ?_ | refine Kept.alloc ?_ _ | refine Kept.setNew ?_ (by first | exact Nat.le_refl _ | exact p4.size | omega) _)))) ?_; rintro e v5 ⟨xa, xd, xg, rfl, hso, m5⟩; obtain ⟨b1, d1, b2, d2, b3, d3, rfl, rfl, rfl⟩ := hso.shapes; have HS5 : Hid _ := hso; have p5 : Kept (fun _ => True) wr v5 := Kept.trans (by first | assumption | (repeat (first | exact Kept.refl _ _ | assumption | refine Kept.drew ?_ | refine Kept.alloc ?_ _ | refine Kept.setNew ?_ (by first | exact Nat.le_refl _ | exact p4.size | omega) _))) m5; first | (have hz5 := (m5.block wr.heap.size (by simp) trivial).trans (heap_alloc_new wr.drew _); obtain ⟨⟨r0, r1, r2, r3⟩, e0, e1, e2, e3⟩ := four_cell hz5) | skip; clear m5 hso))
      all_goals
        go_wp2_with fail
        go_meet
        first
          | exact ⟨_, _, _, _, _, _, _, rfl, rfl, rfl, Ap.late p5 HS5.out (by first | exact Nat.le_refl _ | exact p4.size | simp)⟩
          | exact ⟨_, _, _, _, _, _, _, rfl, rfl, rfl, Ap.early p5 HS5.out hz5 (by first | exact Nat.le_refl _ | exact p4.size) (by first | exact lt_of_block hz4 | simp)⟩
    case rest =>
    obtain ⟨D, p1, p2, p3, d1, d2, d3, rfl, rfl, rfl, hap⟩ := hcut
    have HFa : Hid ((applyP t0 s op).2.2 = 0 → Fit t0 (applyP t0 s op).1) := HLr.out.fit.apply op
    have hbx := hap.box
    have hso := hap.so
    have HKc : Hid (Kept (fun _ => True) wr wc) := hap.kept
    clear hap Y0 Y1 Y2 Y3 Z0 Z1 Z2 Z3 O0 O1 O2 O3 kd HAp
    generalize applyP t0 s op = R at *
    obtain ⟨X, tx, c⟩ := R
    simp only at HFa hbx hso ⊢
    have HSo : Hid _ := hso
    have HLc : Hid (Lw w wc t0 s T S L aa sa ma an ac sn sc mn mc a1 a2 a3 c1 c2 c3) := HLr.out.all HKc.out
    have HBx : Hid _ := hbx
    clear hso hbx HLr HKc
    by_cases hc0 : c = 0
    · subst hc0
      have hfit := HFa.out rfl
      have HL6 : Hid (Lw w (put4 wc S (.string ⟨X.type.toArray⟩) (.slice p1 X.vals.length d1) (.slice p2 X.done.length d2) (.slice p3 X.got.length d3)) t0 X T S L aa sa ma an ac sn sc mn mc p1 p2 p3 d1 d2 d3) := HLc.out.put (HSo.out.stv (hfit.few HG0.out)) hfit
      have hB6 := HBx.out
      have hS6 := HLc.out.sbox
      obtain ⟨⟨x0, x1, x2, x3⟩, _⟩ := four_cell hB6
      obtain ⟨⟨z0, z1, z2, z3⟩, _⟩ := four_cell hS6
      clear hB6 hS6 hfit
      unfold put4 at HL6
      go_wp2_with fail
      go_roundw
      case rel => exact ⟨i + 1, X, p1, p2, p3, d1, d2, d3, by omega, by omega, by go_num, HL6.out⟩
      case measure => simp [intOf]; omega
    · have hc2 : ((c : Int) == 0) = false := by simp; omega
      clear hc0
      go_wp2_with fail
      go_roundw
      case rel => exact ⟨i + 1, s, a1, a2, a3, c1, c2, c3, by omega, by omega, by go_num, HLc.out⟩
      case measure => simp [intOf]; omega
  go_upto_region 4 with fail
  go_cut [32] from 25 to 31 (fun tb wx => tb = .bool false ∧ wr = wx)
  case first =>
    have hor : ¬ i < os.length ∨ (i < os.length ∧ ¬ i < 20) := by omega
    clear hlt hlw
    rcases hor with h1 | ⟨h1, h2⟩
    · have i1 : ¬ (i : Int) < (os.length : Int) := by omega
      go_wp2_with fail
      go_meet
      exact ⟨rfl, rfl⟩
    · have i1 : (i : Int) < (os.length : Int) := by omega
      have i2 : ¬ (i : Int) < 20 := by omega
      go_wp2_with fail
      go_meet
      exact ⟨rfl, rfl⟩
  case rest =>
  obtain ⟨rfl, hw⟩ := hcut
  subst hw
  clear hlt hlw
  obtain ⟨ty, p, q, d0, d1, h0, h1, h2, hx, hq1, hq2⟩ := HShp.out s HLr.out.fit
  obtain ⟨x, hxs⟩ : ∃ x, x = s := ⟨_, rfl⟩
  have HFx : Hid (Fit t0 x) := by rw [hxs]; exact HLr.out.fit
  have HXe : Hid (x = ⟨ty, [p, q], [d0, d1], [h0, h1, h2]⟩) := by rw [hxs]; exact hx
  have hST := HLr.out.state
  have hSB := HLr.out.sbox
  have HTx : Hid (TyV wr (.agg #[.string ⟨L.toArray⟩, .slice aa an ac, .slice sa sn sc, .slice ma mn mc]) t0) := HLr.out.type
  have HTb1 : Hid (wr.heap[T]? = some (.cells #[.string ⟨L.toArray⟩, .slice aa an ac, .slice sa sn sc, .slice ma mn mc] 26 (0, 0))) := HLr.out.tbox
  have KW : Hid (Kept (fun _ => True) w wr) := HLr.out.kept
  clear HLr HShp HOv
  subst hx
  clear hxs
  obtain ⟨v1, o1, v2, o2, rfl, rfl, hv1, hv2, cp, cq, cd0, cd1, hCv, hCd, hCg⟩ := st_rows hST
  obtain ⟨XT, hXT⟩ : ∃ XT, XT = x.type := ⟨_, rfl⟩
  have hXty : XT = ty := by rw [hXT, HXe.out]
  have HStx : Hid (StV wr (.agg #[.string ⟨XT.toArray⟩, .slice (some ⟨v1, o1, none⟩) 2 c1, .slice (some ⟨v2, o2, none⟩) 2 c2, .slice a3 3 c3]) x) := by
    rw [HXe.out, hXty]
    exact hST
  have HSb : Hid (wr.heap[S]? = some (.cells #[.string ⟨XT.toArray⟩, .slice (some ⟨v1, o1, none⟩) 2 c1, .slice (some ⟨v2, o2, none⟩) 2 c2, .slice a3 3 c3] 32 (0, 0))) := by
    rw [hXty]
    exact hSB
  have HCells : Hid (∀ W, Kept (fun _ => True) wr W → W.cell? ⟨v1, o1, none⟩ = some (.int .i64 p) ∧ W.cell? ⟨v1, o1 + 1, none⟩ = some (.int .i64 q) ∧ W.cell? ⟨v2, o2, none⟩ = some (.bool d0)) := fun W k => ⟨(kept_cell k hv1 trivial).trans cp, (kept_cell k hv1 trivial).trans cq, (kept_cell k hv2 trivial).trans cd0⟩
  have HCv : Hid (Cv wr (.slice (some ⟨v1, o1, none⟩) 2 c1) (iv [p, q])) := hCv
  have HCd : Hid (Cv wr (.slice (some ⟨v2, o2, none⟩) 2 c2) (bv [d0, d1])) := hCd
  have hsb := HSb.out
  clear hST hSB hCv hCd hCg cp cq cd0 cd1 hv1 hv2 hXT hXty
  obtain ⟨⟨z0, z1, z2, z3⟩, _⟩ := four_cell hsb
  have cw := bwithin_any (w := wr) nn 60 (by omega)
  rw [show ((60 : Nat) : Int) = 60 from rfl] at cw
  clear hsb
  go_wp2_with fail
  refine Calls.mono cw ?_
  rintro e w8 ⟨⟨k, hk, rfl⟩, hw⟩
  have hw' : wr = w8 := hw.symm
  subst hw'
  obtain ⟨n1, hn1⟩ : ∃ n1 : Int, n1 = (k : Int) - 30 := ⟨_, rfl⟩
  have e1 : (k : Int) - 30 = n1 := hn1.symm
  have e2 : IntKind.i64.wrap n1 = n1 := wrap_ok (by omega) (by omega)
  have b1 : -30 ≤ n1 := by omega
  have b2 : n1 ≤ 30 := by omega
  obtain ⟨N, hN⟩ : ∃ N : Int, N = q + n1 := ⟨_, rfl⟩
  have e3 : q + n1 = N := hN.symm
  have e4 : IntKind.i64.wrap N = N := wrap_ok (by omega) (by omega)
  obtain ⟨oA, hoA⟩ : ∃ oA, oA = (⟨3, [99], [114, 105, 115, 107], n1⟩ : Oq) := ⟨_, rfl⟩
  obtain ⟨oB, hoB⟩ : ∃ oB, oB = (⟨2, [99], [114, 105, 115, 107], N⟩ : Oq) := ⟨_, rfl⟩
  obtain ⟨oC, hoC⟩ : ∃ oC, oC = (⟨4, [99], [112, 97, 121], 0⟩ : Oq) := ⟨_, rfl⟩
  have HEq : Hid (applyP t0 x oA = applyP t0 x oB) := by
    show _ = _
    rw [hoA, hoB, HXe.out, hN]
    exact HAdd.out _ _ _ _ _ _ _ b1 b2
  have HSe : Hid (∀ X tx, applyP t0 x oB = (X, tx, 0) → X.vals = [p, N] ∧ X.done = [d0, d1]) := fun X tx h => by
    rw [hoB, HXe.out] at h
    exact HSet.out _ _ _ _ _ _ _ X tx h
  have HFe : Hid (∀ Z tz, applyP t0 x oC = (Z, tz, 0) → ∃ k1 k2, Z = ⟨Z.type, [p, q], [d0, true], [true, k1, k2]⟩) := fun Z tz h => by
    rw [hoC, HXe.out] at h
    exact HFir.out _ _ _ _ _ _ _ _ _ Z tz h
  have HCa : Hid (∀ W, Calls Tryd.prog 8 #[.string ⟨#[99]⟩, .string ⟨#[114, 105, 115, 107]⟩, .int .i64 n1] W fun e w' => e = .returned (opV oA) ∧ Kept (fun _ => True) W w') := fun W => by rw [hoA]; exact addOp_any [99] [114, 105, 115, 107] n1
  have HCb : Hid (∀ W, Calls Tryd.prog 9 #[.string ⟨#[99]⟩, .string ⟨#[114, 105, 115, 107]⟩, .int .i64 N] W fun e w' => e = .returned (opV oB) ∧ Kept (fun _ => True) W w') := fun W => by rw [hoB]; exact setOp_any [99] [114, 105, 115, 107] N
  have HCc : Hid (∀ W, Calls Tryd.prog 12 #[.string ⟨#[99]⟩, .string ⟨#[112, 97, 121]⟩] W fun e w' => e = .returned (opV oC) ∧ Kept (fun _ => True) W w') := fun W => by rw [hoC]; exact fireOp_any [99] [112, 97, 121]
  have HAp : Hid (∀ o W, Kept (fun _ => True) wr W → Calls Tryd.prog 6 #[.agg #[.string ⟨L.toArray⟩, .slice aa an ac, .slice sa sn sc, .slice ma mn mc], .agg #[.string ⟨XT.toArray⟩, .slice (some ⟨v1, o1, none⟩) 2 c1, .slice (some ⟨v2, o2, none⟩) 2 c2, .slice a3 3 c3], opV o] W fun e w' => ∃ va vd vg, e = .returned (.tuple #[.agg #[.string ⟨(applyP t0 x o).1.type.toArray⟩, va, vd, vg], .string ⟨(applyP t0 x o).2.1.toArray⟩, .int .i64 ((applyP t0 x o).2.2 : Nat)]) ∧ So w' W.heap.size va vd vg (applyP t0 x o).1 ∧ Kept (fun _ => True) W w') := fun o W q => apply_to (HTx.out.all q) (StV.all HStx.out q) HG0.out HFx.out (HTb.out.all (KW.out.trans q)) o
  clear cw z0 z1 z2 z3 hw hn1 hN hoA hoB hoC hk HAdd HSet HFir hq1 hq2
  go_upto_region 12 with fail
  have hT5 := HTb1.out
  have hS5 := HSb.out
  obtain ⟨⟨y0, y1, y2, y3⟩, _⟩ := four_cell hT5
  have Y0 := fun W (q : Kept (fun _ => True) wr W) => (kept_cell q (lt_of_block hT5) trivial).trans y0
  have Y1 := fun W (q : Kept (fun _ => True) wr W) => (kept_cell q (lt_of_block hT5) trivial).trans y1
  have Y2 := fun W (q : Kept (fun _ => True) wr W) => (kept_cell q (lt_of_block hT5) trivial).trans y2
  have Y3 := fun W (q : Kept (fun _ => True) wr W) => (kept_cell q (lt_of_block hT5) trivial).trans y3
  obtain ⟨⟨z0, z1, z2, z3⟩, _⟩ := four_cell hS5
  have Z0 := fun W (q : Kept (fun _ => True) wr W) => (kept_cell q (lt_of_block hS5) trivial).trans z0
  have Z1 := fun W (q : Kept (fun _ => True) wr W) => (kept_cell q (lt_of_block hS5) trivial).trans z1
  have Z2 := fun W (q : Kept (fun _ => True) wr W) => (kept_cell q (lt_of_block hS5) trivial).trans z2
  have Z3 := fun W (q : Kept (fun _ => True) wr W) => (kept_cell q (lt_of_block hS5) trivial).trans z3
  have kd : Kept (fun _ => True) wr wr.drew := (Kept.refl _ _).drew
  have HAp1 : Hid (∀ W, Kept (fun _ => True) wr W → Calls Tryd.prog 6 #[.agg #[.string ⟨L.toArray⟩, .slice aa an ac, .slice sa sn sc, .slice ma mn mc], .agg #[.string ⟨XT.toArray⟩, .slice (some ⟨v1, o1, none⟩) 2 c1, .slice (some ⟨v2, o2, none⟩) 2 c2, .slice a3 3 c3], opV oA] W fun e w' => ∃ va vd vg, e = .returned (.tuple #[.agg #[.string ⟨(applyP t0 x oA).1.type.toArray⟩, va, vd, vg], .string ⟨(applyP t0 x oA).2.1.toArray⟩, .int .i64 ((applyP t0 x oA).2.2 : Nat)]) ∧ So w' W.heap.size va vd vg (applyP t0 x oA).1 ∧ Kept (fun _ => True) W w') := HAp.out oA
  clear y0 y1 y2 y3 z0 z1 z2 z3 hT5 hS5
  go_cut [11, 12, 13] from 62 to 70 (fun tA tB tC wx => ApR wr wx t0 x oA tA tB tC)
  case first =>
    go_region_held3 (fun W => Kept (fun _ => True) wr W) (first | assumption | (repeat (first | exact Kept.refl _ _ | assumption | refine Kept.drew ?_ | refine Kept.alloc ?_ _ | refine Kept.setNew ?_ (by first | exact Nat.le_refl _ | exact p4.size | omega) _))) (first
      | (go_at_call 8; refine Calls.mono (HCa.out _) ?_; rintro e v4 ⟨rfl, m4⟩; have p4 : Kept (fun _ => True) wr v4 := Kept.trans (by first | assumption | (repeat (first | exact Kept.refl _ _ | assumption | refine Kept.drew ?_ | refine Kept.alloc ?_ _ | refine Kept.setNew ?_ (by first | exact Nat.le_refl _ | exact p4.size | omega) _))) m4; try (have hz4 := (m4.block wr.heap.size (by simp) trivial).trans (heap_alloc_new wr.drew _)); clear m4)
      | (go_at_call 6; refine Calls.mono (HAp1.out _ (by first | assumption | (repeat (first | exact Kept.refl _ _ | assumption | refine Kept.drew ?_ | refine Kept.alloc ?_ _ | refine Kept.setNew ?_ (by first | exact Nat.le_refl _ | exact p4.size | omega) _)))) ?_; rintro e v5 ⟨xa, xd, xg, rfl, hso, m5⟩; obtain ⟨b1, d1, b2, d2, b3, d3, rfl, rfl, rfl⟩ := hso.shapes; have HS5 : Hid _ := hso; have p5 : Kept (fun _ => True) wr v5 := Kept.trans (by first | assumption | (repeat (first | exact Kept.refl _ _ | assumption | refine Kept.drew ?_ | refine Kept.alloc ?_ _ | refine Kept.setNew ?_ (by first | exact Nat.le_refl _ | exact p4.size | omega) _))) m5; first | (have hz5 := (m5.block v4.heap.size (by simp) trivial).trans (heap_alloc_new v4 _); have HZ5 : Hid (v4.heap.size < v5.heap.size) := lt_of_block hz5; obtain ⟨⟨r0, r1, r2, r3⟩, e0, e1, e2, e3⟩ := four_cell hz5) | (have hz5 := (m5.block wr.heap.size (lt_of_block hz4) trivial).trans hz4; obtain ⟨⟨r0, r1, r2, r3⟩, e0, e1, e2, e3⟩ := four_cell hz5) | skip; clear m5 hso))
    all_goals
      go_wp2_with fail
      go_meet
      first
        | exact ⟨_, _, _, _, _, _, _, rfl, rfl, rfl, Ap.late p5 HS5.out (by first | exact Nat.le_refl _ | exact p4.size | simp)⟩
        | exact ⟨_, _, _, _, _, _, _, rfl, rfl, rfl, Ap.early p5 HS5.out hz5 (by first | exact Nat.le_refl _ | exact p4.size) (by first | exact lt_of_block hz4 | simp)⟩
  case rest =>
  obtain ⟨D1, f1, f2, f3, l1, l2, l3, rfl, rfl, rfl, hap⟩ := hcut
  clear Y0 Y1 Y2 Y3 Z0 Z1 Z2 Z3 kd HAp1 HCa
  have HBx1 : Hid _ := hap.box
  have HSo1 : Hid _ := hap.so
  have HK1 : Hid (Kept (fun _ => True) wr wc) := hap.kept
  clear hap
  obtain ⟨w9, hw9⟩ : ∃ w9, w9 = wc := ⟨_, rfl⟩
  rw [← hw9] at HBx1 HSo1 HK1 ⊢
  clear hw9
  go_upto_region 13 with fail
  have hT5 := (HK1.out.block _ (lt_of_block HTb1.out) trivial).trans HTb1.out
  have hS5 := (HK1.out.block _ (lt_of_block HSb.out) trivial).trans HSb.out
  obtain ⟨⟨y0, y1, y2, y3⟩, _⟩ := four_cell hT5
  have Y0 := fun W (q : Kept (fun _ => True) w9 W) => (kept_cell q (lt_of_block hT5) trivial).trans y0
  have Y1 := fun W (q : Kept (fun _ => True) w9 W) => (kept_cell q (lt_of_block hT5) trivial).trans y1
  have Y2 := fun W (q : Kept (fun _ => True) w9 W) => (kept_cell q (lt_of_block hT5) trivial).trans y2
  have Y3 := fun W (q : Kept (fun _ => True) w9 W) => (kept_cell q (lt_of_block hT5) trivial).trans y3
  obtain ⟨⟨z0, z1, z2, z3⟩, _⟩ := four_cell hS5
  have Z0 := fun W (q : Kept (fun _ => True) w9 W) => (kept_cell q (lt_of_block hS5) trivial).trans z0
  have Z1 := fun W (q : Kept (fun _ => True) w9 W) => (kept_cell q (lt_of_block hS5) trivial).trans z1
  have Z2 := fun W (q : Kept (fun _ => True) w9 W) => (kept_cell q (lt_of_block hS5) trivial).trans z2
  have Z3 := fun W (q : Kept (fun _ => True) w9 W) => (kept_cell q (lt_of_block hS5) trivial).trans z3
  have Q1 := fun W (q : Kept (fun _ => True) w9 W) => (HCells.out W (HK1.out.trans q)).2.1
  have kd : Kept (fun _ => True) w9 w9.drew := (Kept.refl _ _).drew
  have HAp1 : Hid (∀ W, Kept (fun _ => True) w9 W → Calls Tryd.prog 6 #[.agg #[.string ⟨L.toArray⟩, .slice aa an ac, .slice sa sn sc, .slice ma mn mc], .agg #[.string ⟨XT.toArray⟩, .slice (some ⟨v1, o1, none⟩) 2 c1, .slice (some ⟨v2, o2, none⟩) 2 c2, .slice a3 3 c3], opV oB] W fun e w' => ∃ va vd vg, e = .returned (.tuple #[.agg #[.string ⟨(applyP t0 x oB).1.type.toArray⟩, va, vd, vg], .string ⟨(applyP t0 x oB).2.1.toArray⟩, .int .i64 ((applyP t0 x oB).2.2 : Nat)]) ∧ So w' W.heap.size va vd vg (applyP t0 x oB).1 ∧ Kept (fun _ => True) W w') := fun W q => HAp.out oB W (HK1.out.trans q)
  clear y0 y1 y2 y3 z0 z1 z2 z3 hT5 hS5
  go_cut [14, 15, 16] from 71 to 84 (fun tA tB tC wx => ApR w9 wx t0 x oB tA tB tC)
  case first =>
    go_region_held3 (fun W => Kept (fun _ => True) w9 W) (first | assumption | (repeat (first | exact Kept.refl _ _ | assumption | refine Kept.drew ?_ | refine Kept.alloc ?_ _ | refine Kept.setNew ?_ (by first | exact Nat.le_refl _ | exact p4.size | omega) _))) (first
      | (go_at_call 9; refine Calls.mono (HCb.out _) ?_; rintro e v4 ⟨rfl, m4⟩; have p4 : Kept (fun _ => True) w9 v4 := Kept.trans (by first | assumption | (repeat (first | exact Kept.refl _ _ | assumption | refine Kept.drew ?_ | refine Kept.alloc ?_ _ | refine Kept.setNew ?_ (by first | exact Nat.le_refl _ | exact p4.size | omega) _))) m4; try (have hz4 := (m4.block w9.heap.size (by simp) trivial).trans (heap_alloc_new w9.drew _)); clear m4)
      | (go_at_call 6; refine Calls.mono (HAp1.out _ (by first | assumption | (repeat (first | exact Kept.refl _ _ | assumption | refine Kept.drew ?_ | refine Kept.alloc ?_ _ | refine Kept.setNew ?_ (by first | exact Nat.le_refl _ | exact p4.size | omega) _)))) ?_; rintro e v5 ⟨xa, xd, xg, rfl, hso, m5⟩; obtain ⟨b1, d1, b2, d2, b3, d3, rfl, rfl, rfl⟩ := hso.shapes; have HS5 : Hid _ := hso; have p5 : Kept (fun _ => True) w9 v5 := Kept.trans (by first | assumption | (repeat (first | exact Kept.refl _ _ | assumption | refine Kept.drew ?_ | refine Kept.alloc ?_ _ | refine Kept.setNew ?_ (by first | exact Nat.le_refl _ | exact p4.size | omega) _))) m5; first | (have hz5 := (m5.block v4.heap.size (by simp) trivial).trans (heap_alloc_new v4 _); have HZ5 : Hid (v4.heap.size < v5.heap.size) := lt_of_block hz5; obtain ⟨⟨r0, r1, r2, r3⟩, e0, e1, e2, e3⟩ := four_cell hz5) | (have hz5 := (m5.block w9.heap.size (lt_of_block hz4) trivial).trans hz4; obtain ⟨⟨r0, r1, r2, r3⟩, e0, e1, e2, e3⟩ := four_cell hz5) | skip; clear m5 hso))
    all_goals
      go_wp2_with fail
      go_meet
      first
        | exact ⟨_, _, _, _, _, _, _, rfl, rfl, rfl, Ap.late p5 HS5.out (by first | exact Nat.le_refl _ | exact p4.size | simp)⟩
        | exact ⟨_, _, _, _, _, _, _, rfl, rfl, rfl, Ap.early p5 HS5.out hz5 (by first | exact Nat.le_refl _ | exact p4.size) (by first | exact lt_of_block hz4 | simp)⟩
  case rest =>
  obtain ⟨D2, g1, g2, g3, m1, m2, m3, rfl, rfl, rfl, hap⟩ := hcut
  clear Y0 Y1 Y2 Y3 Z0 Z1 Z2 Z3 Q1 kd HAp1 HCb
  rw [HEq.out] at HBx1 HSo1 ⊢
  have HFw : Hid (Few (applyP t0 x oB).1) := by
    by_cases h : (applyP t0 x oB).2.2 = 0
    · exact (HFx.out.apply oB h).few HG0.out
    · rw [((apply_facts t0 x oB).2.1 h).1]
      exact ⟨by decide, by decide, by decide⟩
  have hb1 := (hap.kept.block _ (lt_of_block HBx1.out) trivial).trans HBx1.out
  have hb2 := hap.box
  have hv1 := StV.all (HSo1.out.stv HFw.out) hap.kept
  have hv2 := hap.so.stv HFw.out
  have HK2 : Hid (Kept (fun _ => True) wr wc) := HK1.out.trans hap.kept
  clear hap HBx1 HSo1 HK1
  generalize applyP t0 x oB = RR at *
  obtain ⟨X, tx, c⟩ := RR
  simp only at HFw hb1 hb2 hv1 hv2 HSe ⊢
  have HB1 : Hid _ := hb1
  have HB2 : Hid _ := hb2
  have HV1 : Hid _ := hv1
  obtain ⟨⟨x0, x1, x2, x3⟩, _⟩ := four_cell hb1
  obtain ⟨⟨u0, u1, u2, u3⟩, _⟩ := four_cell hb2
  have cst := state_same hv1 hv2 HFw.out
  clear hb1 hb2 hv1 hv2
  go_wp2_with fail
  refine Calls.mono cst ?_
  rintro e w10 ⟨rfl, k10⟩
  have HK3 : Hid (Kept (fun _ => True) wr w10) := HK2.out.trans k10
  have HB91 : Hid (w10.heap[D1]? = some (.cells #[.string ⟨X.type.toArray⟩, .slice f1 X.vals.length l1, .slice f2 X.done.length l2, .slice f3 X.got.length l3] 32 (0, 0))) := (k10.block _ (lt_of_block HB1.out) trivial).trans HB1.out
  have HV91 : Hid (StV w10 (.agg #[.string ⟨X.type.toArray⟩, .slice f1 X.vals.length l1, .slice f2 X.done.length l2, .slice f3 X.got.length l3]) X) := StV.all HV1.out k10
  clear cst x0 x1 x2 x3 u0 u1 u2 u3 k10 HB1 HB2 HV1 HK2 HEq
  go_upto_region 16 with fail
  go_cut [127] from 94 to 126 (fun tb wx => tb = .bool false ∧ Kept (fun _ => True) w10 wx)
  case first =>
    by_cases hc0 : c = 0
    · subst hc0
      obtain ⟨hxv, hxd⟩ := HSe.out X tx rfl
      obtain ⟨Xt, Xv, Xd, Xg⟩ := X
      simp only at hxv hxd
      subst hxv
      subst hxd
      have hST := HV91.out
      obtain ⟨vA, oA', vB, oB', ea, eb, hvA, hvB, ca, cb, cc, cd, hCa, hCb, hCc⟩ := st_rows hST
      subst ea
      subst eb
      have hD : w10.heap[D1]? = some (.cells #[.string ⟨Xt.toArray⟩, .slice (some ⟨vA, oA', none⟩) 2 l1, .slice (some ⟨vB, oB', none⟩) 2 l2, .slice f3 Xg.length l3] 32 (0, 0)) := HB91.out
      have hS5 := (HK3.out.block _ (lt_of_block HSb.out) trivial).trans HSb.out
      have HCx : Hid (Cv w10 (.slice (some ⟨vB, oB', none⟩) 2 l2) (bv [d0, d1])) := hCb
      obtain ⟨⟨x0, x1, x2, x3⟩, _⟩ := four_cell hD
      obtain ⟨⟨z0, z1, z2, z3⟩, _⟩ := four_cell hS5
      have X1 := fun W (q : Kept (fun _ => True) w10 W) => (kept_cell q (lt_of_block hD) trivial).trans x1
      have X2 := fun W (q : Kept (fun _ => True) w10 W) => (kept_cell q (lt_of_block hD) trivial).trans x2
      have Z1 := fun W (q : Kept (fun _ => True) w10 W) => (kept_cell q (lt_of_block hS5) trivial).trans z1
      have Z2 := fun W (q : Kept (fun _ => True) w10 W) => (kept_cell q (lt_of_block hS5) trivial).trans z2
      have A0 := fun W (q : Kept (fun _ => True) w10 W) => (kept_cell q hvA trivial).trans ca
      have A1 := fun W (q : Kept (fun _ => True) w10 W) => (kept_cell q hvA trivial).trans cb
      have P0 := fun W (q : Kept (fun _ => True) w10 W) => (HCells.out W (HK3.out.trans q)).1
      have P1 := fun W (q : Kept (fun _ => True) w10 W) => (HCells.out W (HK3.out.trans q)).2.1
      have kd : Kept (fun _ => True) w10 w10.drew := (Kept.refl _ _).drew
      clear x0 x1 x2 x3 z0 z1 z2 z3 hD hS5 hST hvA hvB ca cb cc cd hCa hCb hCc
      go_region_held3 (fun W => Kept (fun _ => True) w10 W) (assumption) (first
        | (go_at_call 11; refine Calls.mono (same_bookB (HCx.out.all (by assumption)) (HCd.out.all (HK3.out.trans (by assumption))) (by simp)) ?_; rintro e v5 ⟨rfl, m5⟩; have p5 : Kept (fun _ => True) w10 v5 := Kept.trans (by assumption) m5; clear m5))
      all_goals
        go_wp2_with fail
        go_meet
        exact ⟨rfl, p5⟩
    · have hc2 : ((c : Int) == 0) = false := by simp; omega
      clear hc0
      go_quiet (fail)
      go_wp2_with fail
      go_meet
      exact ⟨rfl, (Kept.refl _ _).drewN _⟩
  case rest =>
  obtain ⟨rfl, k11⟩ := hcut
  clear HSe HFw HB91 HV91
  have HK4 : Hid (Kept (fun _ => True) wr wc) := HK3.out.trans k11
  clear k11 HK3
  obtain ⟨w11, hw11⟩ : ∃ w11, w11 = wc := ⟨_, rfl⟩
  rw [← hw11] at HK4 ⊢
  clear hw11
  go_upto_region 18 with fail
  have hT5 := (HK4.out.block _ (lt_of_block HTb1.out) trivial).trans HTb1.out
  have hS5 := (HK4.out.block _ (lt_of_block HSb.out) trivial).trans HSb.out
  obtain ⟨⟨y0, y1, y2, y3⟩, _⟩ := four_cell hT5
  have Y0 := fun W (q : Kept (fun _ => True) w11 W) => (kept_cell q (lt_of_block hT5) trivial).trans y0
  have Y1 := fun W (q : Kept (fun _ => True) w11 W) => (kept_cell q (lt_of_block hT5) trivial).trans y1
  have Y2 := fun W (q : Kept (fun _ => True) w11 W) => (kept_cell q (lt_of_block hT5) trivial).trans y2
  have Y3 := fun W (q : Kept (fun _ => True) w11 W) => (kept_cell q (lt_of_block hT5) trivial).trans y3
  obtain ⟨⟨z0, z1, z2, z3⟩, _⟩ := four_cell hS5
  have Z0 := fun W (q : Kept (fun _ => True) w11 W) => (kept_cell q (lt_of_block hS5) trivial).trans z0
  have Z1 := fun W (q : Kept (fun _ => True) w11 W) => (kept_cell q (lt_of_block hS5) trivial).trans z1
  have Z2 := fun W (q : Kept (fun _ => True) w11 W) => (kept_cell q (lt_of_block hS5) trivial).trans z2
  have Z3 := fun W (q : Kept (fun _ => True) w11 W) => (kept_cell q (lt_of_block hS5) trivial).trans z3
  have kd : Kept (fun _ => True) w11 w11.drew := (Kept.refl _ _).drew
  have HAp1 : Hid (∀ W, Kept (fun _ => True) w11 W → Calls Tryd.prog 6 #[.agg #[.string ⟨L.toArray⟩, .slice aa an ac, .slice sa sn sc, .slice ma mn mc], .agg #[.string ⟨XT.toArray⟩, .slice (some ⟨v1, o1, none⟩) 2 c1, .slice (some ⟨v2, o2, none⟩) 2 c2, .slice a3 3 c3], opV oC] W fun e w' => ∃ va vd vg, e = .returned (.tuple #[.agg #[.string ⟨(applyP t0 x oC).1.type.toArray⟩, va, vd, vg], .string ⟨(applyP t0 x oC).2.1.toArray⟩, .int .i64 ((applyP t0 x oC).2.2 : Nat)]) ∧ So w' W.heap.size va vd vg (applyP t0 x oC).1 ∧ Kept (fun _ => True) W w') := fun W q => HAp.out oC W (HK4.out.trans q)
  clear y0 y1 y2 y3 z0 z1 z2 z3 hT5 hS5
  go_cut [17, 18, 19] from 128 to 135 (fun tA tB tC wx => ApR w11 wx t0 x oC tA tB tC)
  case first =>
    go_region_held3 (fun W => Kept (fun _ => True) w11 W) (first | assumption | (repeat (first | exact Kept.refl _ _ | assumption | refine Kept.drew ?_ | refine Kept.alloc ?_ _ | refine Kept.setNew ?_ (by first | exact Nat.le_refl _ | exact p4.size | omega) _))) (first
      | (go_at_call 12; refine Calls.mono (HCc.out _) ?_; rintro e v4 ⟨rfl, m4⟩; have p4 : Kept (fun _ => True) w11 v4 := Kept.trans (by first | assumption | (repeat (first | exact Kept.refl _ _ | assumption | refine Kept.drew ?_ | refine Kept.alloc ?_ _ | refine Kept.setNew ?_ (by first | exact Nat.le_refl _ | exact p4.size | omega) _))) m4; try (have hz4 := (m4.block w11.heap.size (by simp) trivial).trans (heap_alloc_new w11.drew _)); clear m4)
      | (go_at_call 6; refine Calls.mono (HAp1.out _ (by first | assumption | (repeat (first | exact Kept.refl _ _ | assumption | refine Kept.drew ?_ | refine Kept.alloc ?_ _ | refine Kept.setNew ?_ (by first | exact Nat.le_refl _ | exact p4.size | omega) _)))) ?_; rintro e v5 ⟨xa, xd, xg, rfl, hso, m5⟩; obtain ⟨b1, d1, b2, d2, b3, d3, rfl, rfl, rfl⟩ := hso.shapes; have HS5 : Hid _ := hso; have p5 : Kept (fun _ => True) w11 v5 := Kept.trans (by first | assumption | (repeat (first | exact Kept.refl _ _ | assumption | refine Kept.drew ?_ | refine Kept.alloc ?_ _ | refine Kept.setNew ?_ (by first | exact Nat.le_refl _ | exact p4.size | omega) _))) m5; first | (have hz5 := (m5.block v4.heap.size (by simp) trivial).trans (heap_alloc_new v4 _); have HZ5 : Hid (v4.heap.size < v5.heap.size) := lt_of_block hz5; obtain ⟨⟨r0, r1, r2, r3⟩, e0, e1, e2, e3⟩ := four_cell hz5) | (have hz5 := (m5.block w11.heap.size (lt_of_block hz4) trivial).trans hz4; obtain ⟨⟨r0, r1, r2, r3⟩, e0, e1, e2, e3⟩ := four_cell hz5) | skip; clear m5 hso))
    all_goals
      go_wp2_with fail
      go_meet
      first
        | exact ⟨_, _, _, _, _, _, _, rfl, rfl, rfl, Ap.late p5 HS5.out (by first | exact Nat.le_refl _ | exact p4.size | simp)⟩
        | exact ⟨_, _, _, _, _, _, _, rfl, rfl, rfl, Ap.early p5 HS5.out hz5 (by first | exact Nat.le_refl _ | exact p4.size) (by first | exact lt_of_block hz4 | simp)⟩
  case rest =>
  obtain ⟨D3, g1, g2, g3, m1, m2, m3, rfl, rfl, rfl, hap⟩ := hcut
  clear Y0 Y1 Y2 Y3 Z0 Z1 Z2 Z3 kd HAp1 HCc HAp
  have HFa : Hid ((applyP t0 x oC).2.2 = 0 → Fit t0 (applyP t0 x oC).1) := HFx.out.apply oC
  have hb2 := hap.box
  have hso := hap.so
  have HK5 : Hid (Kept (fun _ => True) wr wc) := HK4.out.trans hap.kept
  clear hap HK4
  generalize applyP t0 x oC = RR at *
  obtain ⟨Z, tz, c⟩ := RR
  simp only at HFa HFe hb2 hso ⊢
  have HCk : Hid (∀ W, Kept (fun _ => True) wc W → Calls Tryd.prog 14 #[] W fun e w' => e = .returned (.bool true) ∧ Kept (fun _ => True) W w') := fun W q => known_any (HTb.out.all ((KW.out.trans HK5.out).trans q))
  have kd : Kept (fun _ => True) wc wc.drew := (Kept.refl _ _).drew
  have HKE : Hid (Kept (fun _ => True) w wc) := KW.out.trans HK5.out
  obtain ⟨cz, hcz⟩ : ∃ cz : Int, cz = (c : Int) := ⟨_, rfl⟩
  rw [← hcz]
  by_cases hc0 : c = 0
  · subst hc0
    have hcz0 : cz = 0 := hcz
    subst hcz0
    clear hcz
    have hST := hso.stv ((HFa.out rfl).few HG0.out)
    obtain ⟨k1, k2, hZ⟩ := HFe.out Z tz rfl
    obtain ⟨Zt, Zv, Zd, Zg⟩ := Z
    simp only [Sa.mk.injEq, true_and] at hZ
    obtain ⟨rfl, rfl, rfl⟩ := hZ
    obtain ⟨vA, oA', vB, oB', ea, eb, hvA, hvB, ca, cb, cc, cd, hCa, hCb, hCc⟩ := st_rows hST
    subst ea
    subst eb
    obtain ⟨vG, oG, eg, hvG, ch⟩ := Cv.boolAt (xs := [true, k1, k2]) hCc 0 (by simp)
    subst eg
    have hD : wc.heap[D3]? = some (.cells #[.string ⟨Zt.toArray⟩, .slice (some ⟨vA, oA', none⟩) 2 m1, .slice (some ⟨vB, oB', none⟩) 2 m2, .slice (some ⟨vG, oG, none⟩) 3 m3] 32 (0, 0)) := hb2
    have hS5 := (HK5.out.block _ (lt_of_block HSb.out) trivial).trans HSb.out
    have HCx : Hid (Cv wc (.slice (some ⟨vA, oA', none⟩) 2 m1) (iv [p, q])) := hCa
    obtain ⟨⟨x0, x1, x2, x3⟩, _⟩ := four_cell hD
    obtain ⟨⟨z0, z1, z2, z3⟩, _⟩ := four_cell hS5
    have X1 := fun W (q : Kept (fun _ => True) wc W) => (kept_cell q (lt_of_block hD) trivial).trans x1
    have X2 := fun W (q : Kept (fun _ => True) wc W) => (kept_cell q (lt_of_block hD) trivial).trans x2
    have X3 := fun W (q : Kept (fun _ => True) wc W) => (kept_cell q (lt_of_block hD) trivial).trans x3
    have Z1 := fun W (q : Kept (fun _ => True) wc W) => (kept_cell q (lt_of_block hS5) trivial).trans z1
    have Z2 := fun W (q : Kept (fun _ => True) wc W) => (kept_cell q (lt_of_block hS5) trivial).trans z2
    have B0 := fun W (q : Kept (fun _ => True) wc W) => (kept_cell q hvB trivial).trans cc
    have B1 := fun W (q : Kept (fun _ => True) wc W) => (kept_cell q hvB trivial).trans cd
    have G0 := fun W (q : Kept (fun _ => True) wc W) => (kept_cell q hvG trivial).trans ch
    have P0 := fun W (q : Kept (fun _ => True) wc W) => (HCells.out W (HK5.out.trans q)).2.2
    simp only [Nat.add_zero, List.getElem_cons_zero] at G0
    clear x0 x1 x2 x3 z0 z1 z2 z3 hD hS5 hST hvA hvB hvG ca cb cc cd ch hCa hCb hCc hb2 hso
    go_upto_region 19 with fail
    go_region_held3 (fun W => Kept (fun _ => True) wc W) (assumption) (first
      | (go_at_call 13; refine Calls.mono (same_book (HCx.out.all (by assumption)) (HCv.out.all (HK5.out.trans (by assumption))) (by simp)) ?_; rintro e v5 ⟨rfl, m5⟩; have p5 : Kept (fun _ => True) wc v5 := Kept.trans (by assumption) m5; clear m5)
      | (go_at_call 14; refine Calls.mono (HCk.out _ (by assumption)) ?_; rintro e v6 ⟨rfl, m6⟩; have p6 : Kept (fun _ => True) wc v6 := Kept.trans (by assumption) m6; clear m6))
    all_goals
      have HKf : Hid (Kept (fun _ => True) w v6) := HKE.out.trans p6
      clear p6
      go_wp2_with fail
      go_ret
      exact ⟨rfl, HKf.out⟩
  · have hz0 : ¬ cz = 0 := by omega
    have hz1 : (cz == 0) = false := by simpa using hz0
    have hz2 : (cz != 0) = true := by simpa using hz0
    clear hc0 hb2 hso hcz
    go_upto_region 19 with fail
    refine Gz.begin (fun W => Kept (fun _ => True) wc W) (fun _ => false) (by kernel_rfl) ?_
    refine Gz.take (i := 0) (oi := { dst := some 136, op := Op.move (Operand.tmp 19), type := 34, pos := _, after := #[], guard := none }) (v := ?_) rfl (by kernel_rfl) (by kernel_rfl) (by kernel_rfl) (by kernel_rfl) (fun _ _ _ h => h) (Or.inl ⟨by rfl, ?hy0⟩) kd ?_
    case hy0 => (intro W hSw; (try dsimp only at hSw); go_simp; try with_reducible rfl)
    try simp only [Act.put, List.setIfInBounds_toArray, List.set_cons_zero, List.set_cons_succ]
    refine Gz.take (i := 1) (oi := { dst := some 137, op := Op.binOp BinOp.neq 34 (Operand.tmp 136) (Operand.const (Value.int IntKind.i64 0)) 34, type := 4, pos := _, after := #[{ on := 0, ground := Ground.data }], guard := none }) (v := ?_) rfl (by kernel_rfl) (by kernel_rfl) (by kernel_rfl) (by kernel_rfl) (fun _ _ _ h => h) (Or.inl ⟨by rfl, ?hy1⟩) kd ?_
    case hy1 => (intro W hSw; (try dsimp only at hSw); go_simp; try with_reducible rfl)
    try simp only [Act.put, List.setIfInBounds_toArray, List.set_cons_zero, List.set_cons_succ]
    refine Gz.take (i := 2) (oi := { dst := some 138, op := Op.move (Operand.tmp 137), type := 4, pos := _, after := #[{ on := 1, ground := Ground.data }], guard := none }) (v := ?_) rfl (by kernel_rfl) (by kernel_rfl) (by kernel_rfl) (by kernel_rfl) (fun _ _ _ h => h) (Or.inl ⟨by rfl, ?hy2⟩) kd ?_
    case hy2 => (intro W hSw; (try dsimp only at hSw); go_simp; try with_reducible rfl)
    try simp only [Act.put, List.setIfInBounds_toArray, List.set_cons_zero, List.set_cons_succ]
    refine Gz.take (i := 3) (oi := { dst := some 139, op := Op.fieldAddr 32 (Operand.tmp 17) 1, type := 0, pos := _, after := #[{ on := 2, ground := Ground.guard }], guard := some (2, false) }) (v := undef) rfl (by kernel_rfl) (by kernel_rfl) (by kernel_rfl) (by kernel_rfl) (fun _ _ _ h => h) (Or.inr ⟨by rfl, rfl⟩) kd ?_
    try simp only [Act.put, List.setIfInBounds_toArray, List.set_cons_zero, List.set_cons_succ]
    refine Gz.take (i := 4) (oi := { dst := some 140, op := Op.load 29 (Operand.tmp 139), type := 29, pos := _, after := #[{ on := 3, ground := Ground.data }, { on := 2, ground := Ground.guard }], guard := some (2, false) }) (v := undef) rfl (by kernel_rfl) (by kernel_rfl) (by kernel_rfl) (by kernel_rfl) (fun _ _ _ h => h) (Or.inr ⟨by rfl, rfl⟩) kd ?_
    try simp only [Act.put, List.setIfInBounds_toArray, List.set_cons_zero, List.set_cons_succ]
    refine Gz.take (i := 5) (oi := { dst := some 141, op := Op.fieldAddr 32 (Operand.tmp 6) 1, type := 0, pos := _, after := #[{ on := 2, ground := Ground.guard }], guard := some (2, false) }) (v := undef) rfl (by kernel_rfl) (by kernel_rfl) (by kernel_rfl) (by kernel_rfl) (fun _ _ _ h => h) (Or.inr ⟨by rfl, rfl⟩) kd ?_
    try simp only [Act.put, List.setIfInBounds_toArray, List.set_cons_zero, List.set_cons_succ]
    refine Gz.take (i := 6) (oi := { dst := some 142, op := Op.load 29 (Operand.tmp 141), type := 29, pos := _, after := #[{ on := 5, ground := Ground.data }, { on := 2, ground := Ground.guard }], guard := some (2, false) }) (v := undef) rfl (by kernel_rfl) (by kernel_rfl) (by kernel_rfl) (by kernel_rfl) (fun _ _ _ h => h) (Or.inr ⟨by rfl, rfl⟩) kd ?_
    try simp only [Act.put, List.setIfInBounds_toArray, List.set_cons_zero, List.set_cons_succ]
    refine Gz.take (i := 7) (oi := { dst := some 143, op := Op.call { callee := Callee.value (Operand.func 13), args := #[Operand.tmp 140, Operand.tmp 142], argTypes := #[29, 29] }, type := 4, pos := _, after := #[{ on := 4, ground := Ground.data }, { on := 6, ground := Ground.data }, { on := 2, ground := Ground.chain }, { on := 2, ground := Ground.guard }], guard := some (2, false) }) (v := undef) rfl (by kernel_rfl) (by kernel_rfl) (by kernel_rfl) (by kernel_rfl) (fun _ _ _ h => h) (Or.inr ⟨by rfl, rfl⟩) kd ?_
    try simp only [Act.put, List.setIfInBounds_toArray, List.set_cons_zero, List.set_cons_succ]
    refine Gz.take (i := 8) (oi := { dst := some 144, op := Op.move (Operand.tmp 143), type := 4, pos := _, after := #[{ on := 7, ground := Ground.data }, { on := 7, ground := Ground.chain }, { on := 2, ground := Ground.guard }], guard := some (2, false) }) (v := undef) rfl (by kernel_rfl) (by kernel_rfl) (by kernel_rfl) (by kernel_rfl) (fun _ _ _ h => h) (Or.inr ⟨by rfl, rfl⟩) kd ?_
    try simp only [Act.put, List.setIfInBounds_toArray, List.set_cons_zero, List.set_cons_succ]
    refine Gz.take (i := 9) (oi := { dst := some 145, op := Op.fieldAddr 32 (Operand.tmp 17) 2, type := 0, pos := _, after := #[{ on := 8, ground := Ground.guard }], guard := some (8, true) }) (v := undef) rfl (by kernel_rfl) (by kernel_rfl) (by kernel_rfl) (by kernel_rfl) (fun _ _ _ h => h) (Or.inr ⟨by rfl, rfl⟩) kd ?_
    try simp only [Act.put, List.setIfInBounds_toArray, List.set_cons_zero, List.set_cons_succ]
    refine Gz.take (i := 10) (oi := { dst := some 146, op := Op.load 30 (Operand.tmp 145), type := 30, pos := _, after := #[{ on := 9, ground := Ground.data }, { on := 8, ground := Ground.guard }], guard := some (8, true) }) (v := undef) rfl (by kernel_rfl) (by kernel_rfl) (by kernel_rfl) (by kernel_rfl) (fun _ _ _ h => h) (Or.inr ⟨by rfl, rfl⟩) kd ?_
    try simp only [Act.put, List.setIfInBounds_toArray, List.set_cons_zero, List.set_cons_succ]
    refine Gz.take (i := 11) (oi := { dst := some 147, op := Op.indexAddr 30 (Operand.tmp 146) (Operand.const (Value.int IntKind.i64 0)), type := 0, pos := _, after := #[{ on := 10, ground := Ground.data }, { on := 8, ground := Ground.guard }], guard := some (8, true) }) (v := undef) rfl (by kernel_rfl) (by kernel_rfl) (by kernel_rfl) (by kernel_rfl) (fun _ _ _ h => h) (Or.inr ⟨by rfl, rfl⟩) kd ?_
    try simp only [Act.put, List.setIfInBounds_toArray, List.set_cons_zero, List.set_cons_succ]
    refine Gz.take (i := 12) (oi := { dst := some 148, op := Op.load 4 (Operand.tmp 147), type := 4, pos := _, after := #[{ on := 11, ground := Ground.data }, { on := 8, ground := Ground.guard }], guard := some (8, true) }) (v := undef) rfl (by kernel_rfl) (by kernel_rfl) (by kernel_rfl) (by kernel_rfl) (fun _ _ _ h => h) (Or.inr ⟨by rfl, rfl⟩) kd ?_
    try simp only [Act.put, List.setIfInBounds_toArray, List.set_cons_zero, List.set_cons_succ]
    refine Gz.take (i := 13) (oi := { dst := some 149, op := Op.fieldAddr 32 (Operand.tmp 6) 2, type := 0, pos := _, after := #[{ on := 8, ground := Ground.guard }], guard := some (8, true) }) (v := undef) rfl (by kernel_rfl) (by kernel_rfl) (by kernel_rfl) (by kernel_rfl) (fun _ _ _ h => h) (Or.inr ⟨by rfl, rfl⟩) kd ?_
    try simp only [Act.put, List.setIfInBounds_toArray, List.set_cons_zero, List.set_cons_succ]
    refine Gz.take (i := 14) (oi := { dst := some 150, op := Op.load 30 (Operand.tmp 149), type := 30, pos := _, after := #[{ on := 13, ground := Ground.data }, { on := 8, ground := Ground.guard }], guard := some (8, true) }) (v := undef) rfl (by kernel_rfl) (by kernel_rfl) (by kernel_rfl) (by kernel_rfl) (fun _ _ _ h => h) (Or.inr ⟨by rfl, rfl⟩) kd ?_
    try simp only [Act.put, List.setIfInBounds_toArray, List.set_cons_zero, List.set_cons_succ]
    refine Gz.take (i := 15) (oi := { dst := some 151, op := Op.indexAddr 30 (Operand.tmp 150) (Operand.const (Value.int IntKind.i64 0)), type := 0, pos := _, after := #[{ on := 14, ground := Ground.data }, { on := 8, ground := Ground.guard }], guard := some (8, true) }) (v := undef) rfl (by kernel_rfl) (by kernel_rfl) (by kernel_rfl) (by kernel_rfl) (fun _ _ _ h => h) (Or.inr ⟨by rfl, rfl⟩) kd ?_
    try simp only [Act.put, List.setIfInBounds_toArray, List.set_cons_zero, List.set_cons_succ]
    refine Gz.take (i := 16) (oi := { dst := some 152, op := Op.load 4 (Operand.tmp 151), type := 4, pos := _, after := #[{ on := 15, ground := Ground.data }, { on := 8, ground := Ground.guard }], guard := some (8, true) }) (v := undef) rfl (by kernel_rfl) (by kernel_rfl) (by kernel_rfl) (by kernel_rfl) (fun _ _ _ h => h) (Or.inr ⟨by rfl, rfl⟩) kd ?_
    try simp only [Act.put, List.setIfInBounds_toArray, List.set_cons_zero, List.set_cons_succ]
    refine Gz.take (i := 17) (oi := { dst := some 153, op := Op.binOp BinOp.eql 4 (Operand.tmp 148) (Operand.tmp 152) 4, type := 4, pos := _, after := #[{ on := 12, ground := Ground.data }, { on := 16, ground := Ground.data }, { on := 8, ground := Ground.guard }], guard := some (8, true) }) (v := undef) rfl (by kernel_rfl) (by kernel_rfl) (by kernel_rfl) (by kernel_rfl) (fun _ _ _ h => h) (Or.inr ⟨by rfl, rfl⟩) kd ?_
    try simp only [Act.put, List.setIfInBounds_toArray, List.set_cons_zero, List.set_cons_succ]
    refine Gz.take (i := 18) (oi := { dst := some 154, op := Op.pick (Operand.tmp 144) (Operand.tmp 153) (Operand.const (Value.bool false)), type := 4, pos := _, after := #[{ on := 8, ground := Ground.data }, { on := 17, ground := Ground.data }, { on := 2, ground := Ground.guard }], guard := some (2, false) }) (v := undef) rfl (by kernel_rfl) (by kernel_rfl) (by kernel_rfl) (by kernel_rfl) (fun _ _ _ h => h) (Or.inr ⟨by rfl, rfl⟩) kd ?_
    try simp only [Act.put, List.setIfInBounds_toArray, List.set_cons_zero, List.set_cons_succ]
    refine Gz.take (i := 19) (oi := { dst := some 155, op := Op.move (Operand.tmp 154), type := 4, pos := _, after := #[{ on := 18, ground := Ground.data }, { on := 8, ground := Ground.chain }, { on := 2, ground := Ground.guard }], guard := some (2, false) }) (v := undef) rfl (by kernel_rfl) (by kernel_rfl) (by kernel_rfl) (by kernel_rfl) (fun _ _ _ h => h) (Or.inr ⟨by rfl, rfl⟩) kd ?_
    try simp only [Act.put, List.setIfInBounds_toArray, List.set_cons_zero, List.set_cons_succ]
    refine Gz.take (i := 20) (oi := { dst := some 156, op := Op.fieldAddr 32 (Operand.tmp 17) 2, type := 0, pos := _, after := #[{ on := 19, ground := Ground.guard }], guard := some (19, true) }) (v := undef) rfl (by kernel_rfl) (by kernel_rfl) (by kernel_rfl) (by kernel_rfl) (fun _ _ _ h => h) (Or.inr ⟨by rfl, rfl⟩) kd ?_
    try simp only [Act.put, List.setIfInBounds_toArray, List.set_cons_zero, List.set_cons_succ]
    refine Gz.take (i := 21) (oi := { dst := some 157, op := Op.load 30 (Operand.tmp 156), type := 30, pos := _, after := #[{ on := 20, ground := Ground.data }, { on := 19, ground := Ground.guard }], guard := some (19, true) }) (v := undef) rfl (by kernel_rfl) (by kernel_rfl) (by kernel_rfl) (by kernel_rfl) (fun _ _ _ h => h) (Or.inr ⟨by rfl, rfl⟩) kd ?_
    try simp only [Act.put, List.setIfInBounds_toArray, List.set_cons_zero, List.set_cons_succ]
    refine Gz.take (i := 22) (oi := { dst := some 158, op := Op.indexAddr 30 (Operand.tmp 157) (Operand.const (Value.int IntKind.i64 1)), type := 0, pos := _, after := #[{ on := 21, ground := Ground.data }, { on := 19, ground := Ground.guard }], guard := some (19, true) }) (v := undef) rfl (by kernel_rfl) (by kernel_rfl) (by kernel_rfl) (by kernel_rfl) (fun _ _ _ h => h) (Or.inr ⟨by rfl, rfl⟩) kd ?_
    try simp only [Act.put, List.setIfInBounds_toArray, List.set_cons_zero, List.set_cons_succ]
    refine Gz.take (i := 23) (oi := { dst := some 159, op := Op.load 4 (Operand.tmp 158), type := 4, pos := _, after := #[{ on := 22, ground := Ground.data }, { on := 19, ground := Ground.guard }], guard := some (19, true) }) (v := undef) rfl (by kernel_rfl) (by kernel_rfl) (by kernel_rfl) (by kernel_rfl) (fun _ _ _ h => h) (Or.inr ⟨by rfl, rfl⟩) kd ?_
    try simp only [Act.put, List.setIfInBounds_toArray, List.set_cons_zero, List.set_cons_succ]
    refine Gz.take (i := 24) (oi := { dst := some 160, op := Op.pick (Operand.tmp 155) (Operand.tmp 159) (Operand.const (Value.bool false)), type := 4, pos := _, after := #[{ on := 19, ground := Ground.data }, { on := 23, ground := Ground.data }, { on := 2, ground := Ground.guard }], guard := some (2, false) }) (v := undef) rfl (by kernel_rfl) (by kernel_rfl) (by kernel_rfl) (by kernel_rfl) (fun _ _ _ h => h) (Or.inr ⟨by rfl, rfl⟩) kd ?_
    try simp only [Act.put, List.setIfInBounds_toArray, List.set_cons_zero, List.set_cons_succ]
    refine Gz.take (i := 25) (oi := { dst := some 161, op := Op.move (Operand.tmp 160), type := 4, pos := _, after := #[{ on := 24, ground := Ground.data }, { on := 19, ground := Ground.chain }, { on := 2, ground := Ground.guard }], guard := some (2, false) }) (v := undef) rfl (by kernel_rfl) (by kernel_rfl) (by kernel_rfl) (by kernel_rfl) (fun _ _ _ h => h) (Or.inr ⟨by rfl, rfl⟩) kd ?_
    try simp only [Act.put, List.setIfInBounds_toArray, List.set_cons_zero, List.set_cons_succ]
    refine Gz.take (i := 26) (oi := { dst := some 162, op := Op.fieldAddr 32 (Operand.tmp 17) 3, type := 0, pos := _, after := #[{ on := 25, ground := Ground.guard }], guard := some (25, true) }) (v := undef) rfl (by kernel_rfl) (by kernel_rfl) (by kernel_rfl) (by kernel_rfl) (fun _ _ _ h => h) (Or.inr ⟨by rfl, rfl⟩) kd ?_
    try simp only [Act.put, List.setIfInBounds_toArray, List.set_cons_zero, List.set_cons_succ]
    refine Gz.take (i := 27) (oi := { dst := some 163, op := Op.load 30 (Operand.tmp 162), type := 30, pos := _, after := #[{ on := 26, ground := Ground.data }, { on := 25, ground := Ground.guard }], guard := some (25, true) }) (v := undef) rfl (by kernel_rfl) (by kernel_rfl) (by kernel_rfl) (by kernel_rfl) (fun _ _ _ h => h) (Or.inr ⟨by rfl, rfl⟩) kd ?_
    try simp only [Act.put, List.setIfInBounds_toArray, List.set_cons_zero, List.set_cons_succ]
    refine Gz.take (i := 28) (oi := { dst := some 164, op := Op.indexAddr 30 (Operand.tmp 163) (Operand.const (Value.int IntKind.i64 0)), type := 0, pos := _, after := #[{ on := 27, ground := Ground.data }, { on := 25, ground := Ground.guard }], guard := some (25, true) }) (v := undef) rfl (by kernel_rfl) (by kernel_rfl) (by kernel_rfl) (by kernel_rfl) (fun _ _ _ h => h) (Or.inr ⟨by rfl, rfl⟩) kd ?_
    try simp only [Act.put, List.setIfInBounds_toArray, List.set_cons_zero, List.set_cons_succ]
    refine Gz.take (i := 29) (oi := { dst := some 165, op := Op.load 4 (Operand.tmp 164), type := 4, pos := _, after := #[{ on := 28, ground := Ground.data }, { on := 25, ground := Ground.guard }], guard := some (25, true) }) (v := undef) rfl (by kernel_rfl) (by kernel_rfl) (by kernel_rfl) (by kernel_rfl) (fun _ _ _ h => h) (Or.inr ⟨by rfl, rfl⟩) kd ?_
    try simp only [Act.put, List.setIfInBounds_toArray, List.set_cons_zero, List.set_cons_succ]
    refine Gz.take (i := 30) (oi := { dst := some 166, op := Op.pick (Operand.tmp 161) (Operand.tmp 165) (Operand.const (Value.bool false)), type := 4, pos := _, after := #[{ on := 25, ground := Ground.data }, { on := 29, ground := Ground.data }, { on := 2, ground := Ground.guard }], guard := some (2, false) }) (v := undef) rfl (by kernel_rfl) (by kernel_rfl) (by kernel_rfl) (by kernel_rfl) (fun _ _ _ h => h) (Or.inr ⟨by rfl, rfl⟩) kd ?_
    try simp only [Act.put, List.setIfInBounds_toArray, List.set_cons_zero, List.set_cons_succ]
    refine Gz.take (i := 31) (oi := { dst := some 167, op := Op.pick (Operand.tmp 138) (Operand.const (Value.bool true)) (Operand.tmp 166), type := 4, pos := _, after := #[{ on := 2, ground := Ground.data }, { on := 30, ground := Ground.data }], guard := none }) (v := ?_) rfl (by kernel_rfl) (by kernel_rfl) (by kernel_rfl) (by kernel_rfl) (fun _ _ _ h => h) (Or.inl ⟨by rfl, ?hy31⟩) kd ?_
    case hy31 => (intro W hSw; (try dsimp only at hSw); go_simp; try with_reducible rfl)
    try simp only [Act.put, List.setIfInBounds_toArray, List.set_cons_zero, List.set_cons_succ]
    refine Gz.take (i := 32) (oi := { dst := some 168, op := Op.move (Operand.tmp 167), type := 4, pos := _, after := #[{ on := 31, ground := Ground.data }, { on := 25, ground := Ground.chain }], guard := none }) (v := ?_) rfl (by kernel_rfl) (by kernel_rfl) (by kernel_rfl) (by kernel_rfl) (fun _ _ _ h => h) (Or.inl ⟨by rfl, ?hy32⟩) kd ?_
    case hy32 => (intro W hSw; (try dsimp only at hSw); go_simp; try with_reducible rfl)
    try simp only [Act.put, List.setIfInBounds_toArray, List.set_cons_zero, List.set_cons_succ]
    refine Gz.one (i := 33) (o := { dst := some 169, op := Op.call { callee := Callee.value (Operand.func 14), args := #[], argTypes := #[] }, type := 4, pos := _, after := #[{ on := 32, ground := Ground.chain }, { on := 32, ground := Ground.guard }], guard := some (32, true) }) (by kernel_rfl) rfl (fun K hK => ?_)
    go_simp
    refine Calls.mono (HCk.out _ kd) ?_
    rintro e v6 ⟨rfl, m6⟩
    have p6 : Kept (fun _ => True) wc v6 := Kept.trans kd m6
    try go_wp2_with fail
    refine hK.out _ _ (fun hEarly => p6) ?_
    clear hK K
    try simp only [Act.put, List.setIfInBounds_toArray, List.set_cons_zero, List.set_cons_succ]
    refine Gz.take (i := 34) (oi := { dst := some 170, op := Op.pick (Operand.tmp 168) (Operand.tmp 169) (Operand.const (Value.bool false)), type := 4, pos := _, after := #[{ on := 32, ground := Ground.data }, { on := 33, ground := Ground.data }], guard := none }) (v := ?_) rfl (by kernel_rfl) (by kernel_rfl) (by kernel_rfl) (by kernel_rfl) (fun _ _ _ h => h) (Or.inl ⟨by rfl, ?hy34⟩) p6 ?_
    case hy34 => (intro W hSw; (try dsimp only at hSw); go_simp; try with_reducible rfl)
    try simp only [Act.put, List.setIfInBounds_toArray, List.set_cons_zero, List.set_cons_succ]
    refine Gz.one (i := 35) (o := { dst := some 4, op := Op.assign (Operand.tmp 170), type := 4, pos := _, after := #[{ on := 34, ground := Ground.data }, { on := 33, ground := Ground.chain }, { on := 0, ground := Ground.phase }, { on := 1, ground := Ground.phase }, { on := 2, ground := Ground.phase }, { on := 3, ground := Ground.phase }, { on := 4, ground := Ground.phase }, { on := 5, ground := Ground.phase }, { on := 6, ground := Ground.phase }, { on := 7, ground := Ground.phase }, { on := 8, ground := Ground.phase }, { on := 9, ground := Ground.phase }, { on := 10, ground := Ground.phase }, { on := 11, ground := Ground.phase }, { on := 12, ground := Ground.phase }, { on := 13, ground := Ground.phase }, { on := 14, ground := Ground.phase }, { on := 15, ground := Ground.phase }, { on := 16, ground := Ground.phase }, { on := 17, ground := Ground.phase }, { on := 18, ground := Ground.phase }, { on := 19, ground := Ground.phase }, { on := 20, ground := Ground.phase }, { on := 21, ground := Ground.phase }, { on := 22, ground := Ground.phase }, { on := 23, ground := Ground.phase }, { on := 24, ground := Ground.phase }, { on := 25, ground := Ground.phase }, { on := 26, ground := Ground.phase }, { on := 27, ground := Ground.phase }, { on := 28, ground := Ground.phase }, { on := 29, ground := Ground.phase }, { on := 30, ground := Ground.phase }, { on := 31, ground := Ground.phase }, { on := 32, ground := Ground.phase }, { on := 33, ground := Ground.phase }, { on := 34, ground := Ground.phase }], guard := none }) (by kernel_rfl) rfl (fun K hK => ?_)
    go_simp
    refine hK.out _ _ (fun hEarly => p6) ?_
    clear hK K
    try simp only [Act.put, List.setIfInBounds_toArray, List.set_cons_zero, List.set_cons_succ]
    refine Gz.done (by kernel_rfl) ?_ _
    have HKf : Hid (Kept (fun _ => True) w v6) := HKE.out.trans p6
    clear p6
    go_wp2_with fail
    go_ret
    exact ⟨rfl, HKf.out⟩

  end Go.Proofs.YtnddpalngjmhnabDoor