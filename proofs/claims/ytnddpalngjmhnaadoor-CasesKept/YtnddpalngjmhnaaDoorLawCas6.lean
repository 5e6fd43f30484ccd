/-
  CasesKept.
-/
import Derived.Test.YtnddpalngjmhnaaDoorV14
import Derived.Test.YtnddpalngjmhnaaDoorV15
namespace Go.Proofs.YtnddpalngjmhnaaDoor
open Go.RowKit

theorem Cv.two {w : World} {G : Nat} {u v : Value} {T : TypeId} {fr : Nat × Nat} (h : w.heap[G]? = some (.cells #[u, v] T fr)) : Cv w (.slice (some ⟨G, 0, none⟩) 2 2) [u, v] :=
  ⟨_, _, rfl, by simp, fun h => (by cases h), fun _ => ⟨G, 0, rfl, lt_of_block h, fun i hi => by
    rw [cell_of_row w G _ _ _ _ h]
    have hi2 : i < 2 := by simpa using hi
    have : i = 0 ∨ i = 1 := by omega
    rcases this with rfl | rfl <;> rfl⟩⟩
theorem kept_letters : ∃ (t0 : Ty) (s1 : Sa), Good t0 ∧ Fit t0 s1 ∧ newP t0 = s1 ∧ s1.vals = [5, 0] ∧ s1.done.length = 2 ∧ s1.got.length = 3 ∧ t0.attrs.length = 2 ∧ t0.stages.length = 2 ∧
    (∀ w, Calls Tryd.prog 9 #[] w fun e w' => ∃ g a s m b, e = .returned (.slice (some ⟨g, 0, none⟩) 2 2) ∧ w'.heap[g]? = some (.cells #[.string ⟨t0.name.toArray⟩, a, s, m, .string ⟨count.name.toArray⟩, b, .slice none 0 0, .slice none 0 0] 25 (0, 0)) ∧ TyV w' (.agg #[.string ⟨t0.name.toArray⟩, a, s, m]) t0 ∧ Kept (fun _ => True) w w') :=
  ⟨loan, sLoan, loan_good, fit_loan, new_loan, rfl, rfl, rfl, rfl, rfl,
    fun w => (types_any (w := w)).mono fun e w' h => by
      obtain ⟨g, a, s, m, b, h1, h2, h3, _, h5⟩ := h
      exact ⟨g, a, s, m, b, h1, h2, h3, h5⟩⟩

set_option maxRecDepth 100000 in
set_option maxHeartbeats 16000000 in
theorem casesKept_any {w : World} {lv : Value} {os : List Oq} (ho : Ov w lv os) (hTab : Tab w) : Calls Tryd.prog 8 #[lv] w fun e w' => e = .returned (.bool true) ∧ Kept (fun _ => True) w w' := by
  have HTb : Hid (Tab w) := hTab
  have HOv : Hid (Ov w lv os) := ho
  obtain ⟨lo, lc, rfl, llen⟩ := ho.form
  clear hTab ho
  obtain ⟨t0, s1, G0, F1, hnew, hvals, hdl, hgl, hal, hsl, HTypes⟩ := kept_letters
  have ct := HTypes w
  have HG0 : Hid (Good t0) := G0
  have HF1 : Hid (Fit t0 s1) := F1
  have HNw : Hid (newP t0 = s1) := hnew
  have HVl : Hid (s1.vals = [5, 0]) := hvals
  have HVl2 : Hid (s1.vals.length = 2) := by show _ = _; rw [hvals]; rfl
  have HDl : Hid (s1.done.length = 2) := hdl
  have HGl : Hid (s1.got.length = 3) := hgl
  have HAl : Hid (t0.attrs.length = 2) := hal
  have HSl : Hid (t0.stages.length = 2) := hsl
  have HFw : Hid (Few s1) := F1.few G0
  clear HTypes G0 F1 hnew hvals hdl hgl hal hsl
  go_enter Tryd.func8, Tryd.ntmps8
  go_wp2_with fail
  refine Calls.mono ct ?_
  rintro e w1 ⟨g, a, s, m, b, rfl, hg, hl, k1⟩
  obtain ⟨aa, an, ac, sa, sn, sc, ma, mn, mc, he⟩ := hl.parts
  simp only [Value.agg.injEq, Array.mk.injEq, List.cons.injEq, and_true, true_and] at he
  obtain ⟨rfl, rfl, rfl⟩ := he
  have l0 : w1.cell? ⟨g, 0, none⟩ = some (.string ⟨t0.name.toArray⟩) := by simp [World.cell?, hg]
  have l1 : w1.cell? ⟨g, 1, none⟩ = some (.slice aa an ac) := by simp [World.cell?, hg]
  have l2 : w1.cell? ⟨g, 2, none⟩ = some (.slice sa sn sc) := by simp [World.cell?, hg]
  have l3 : w1.cell? ⟨g, 3, none⟩ = some (.slice ma mn mc) := by simp [World.cell?, hg]
  obtain ⟨L, hL⟩ : ∃ L, L = t0.name := ⟨_, rfl⟩
  rw [← hL] at l0 hl
  have ka : Kept (fun _ => True) w1 (w1.alloc (.cells #[.string ⟨L.toArray⟩, .slice aa an ac, .slice sa sn sc, .slice ma mn mc] 25)) := (Kept.refl _ _).alloc _
  have hT := heap_alloc_new w1 (.cells #[.string ⟨L.toArray⟩, .slice aa an ac, .slice sa sn sc, .slice ma mn mc] 25)
  have HT : Hid _ := hT
  have K1 : Hid (Kept (fun _ => True) w _) := k1.trans ka
  have HLa : Hid (TyV _ (.agg #[.string ⟨L.toArray⟩, .slice aa an ac, .slice sa sn sc, .slice ma mn mc]) t0) := hl.all ka
  have cn := new_any HLa.out HG0.out
  rw [HNw.out] at cn
  obtain ⟨⟨y0, y1, y2, y3⟩, _⟩ := four_cell hT
  clear ct hg hl k1 ka hT hL
  go_wp2_with fail
  generalize w1.alloc (.cells #[.string ⟨L.toArray⟩, .slice aa an ac, .slice sa sn sc, .slice ma mn mc] 25) = w2 at *
  generalize w1.heap.size = T at *
  refine Calls.mono cn ?_
  rintro e w3 ⟨v3, rfl, ho3, k3⟩
  have hst3 := ho3.view HFw.out
  obtain ⟨a1, c1, a2, c2, a3, c3, rfl⟩ := hst3.parts
  obtain ⟨Z, hZ⟩ : ∃ Z, Z = s1.type := ⟨_, rfl⟩
  rw [HVl2.out, HDl.out, HGl.out, ← hZ] at hst3 ⊢
  have ka : Kept (fun _ => True) w3 (w3.alloc (.cells #[.string ⟨Z.toArray⟩, .slice a1 2 c1, .slice a2 2 c2, .slice a3 3 c3] 31)) := (Kept.refl _ _).alloc _
  have hS := heap_alloc_new w3 (.cells #[.string ⟨Z.toArray⟩, .slice a1 2 c1, .slice a2 2 c2, .slice a3 3 c3] 31)
  have HS : Hid _ := hS
  have HSt : Hid (StV _ (.agg #[.string ⟨Z.toArray⟩, .slice a1 2 c1, .slice a2 2 c2, .slice a3 3 c3]) s1) := hst3.all ka
  have K3 : Hid (Kept (fun _ => True) w2 _) := k3.trans ka
  clear cn y0 y1 y2 y3 l0 l1 l2 l3 ho3 hst3 k3 ka hZ
  obtain ⟨⟨z0, z1, z2, z3⟩, _⟩ := four_cell hS
  clear hS
  go_upto_region 5 with fail
  generalize w3.alloc (.cells #[.string ⟨Z.toArray⟩, .slice a1 2 c1, .slice a2 2 c2, .slice a3 3 c3] 31) = w4 at *
  generalize w3.heap.size = S at *
  have HT4 : Hid _ := (K3.out.block _ (lt_of_block HT.out) trivial).trans HT.out
  have HTy4 : Hid (TyV w4 (.agg #[.string ⟨L.toArray⟩, .slice aa an ac, .slice sa sn sc, .slice ma mn mc]) t0) := HLa.out.all K3.out
  have KW4 : Hid (Kept (fun _ => True) w w4) := K1.out.trans K3.out
  obtain ⟨TX, hTX⟩ : ∃ TX, TX = textP t0 s1 := ⟨_, rfl⟩
  have HTX : Hid (textP t0 s1 = TX) := hTX.symm
  have HTt : Hid (∀ W, Kept (fun _ => True) w4 W → Calls Tryd.prog 20 #[.agg #[.string ⟨L.toArray⟩, .slice aa an ac, .slice sa sn sc, .slice ma mn mc], .agg #[.string ⟨Z.toArray⟩, .slice a1 2 c1, .slice a2 2 c2, .slice a3 3 c3]] W fun e w' => e = .returned (.string ⟨TX.toArray⟩) ∧ Kept (fun _ => True) W w') := fun W q => by
    have c := text_any (HTy4.out.all q) (StV.all HSt.out q) HG0.out HF1.out (HTb.out.all (KW4.out.trans q)) (text_short HG0.out HF1.out)
    rw [HTX.out] at c
    exact c
  obtain ⟨⟨y0, y1, y2, y3⟩, _⟩ := four_cell HT4.out
  clear hTX
  go_wp2_with fail
  refine Calls.mono (HTt.out _ (Kept.refl _ _)) ?_
  rintro e w5 ⟨rfl, k5⟩
  have K5 : Hid (Kept (fun _ => True) w4 w5) := k5
  clear y0 y1 y2 y3 z0 z1 z2 z3 k5
  go_wp2_with fail
  go_loopw [6, 7, 8, 9] (fun ti _ _ _ wr => ∃ i : Nat, i ≤ os.length ∧ i ≤ 20 ∧ ti = .int .i64 i ∧ Kept (fun _ => True) w4 wr) (fun ti _ _ _ _ => 20 - (intOf ti).toNat)
  case atStart => exact ⟨0, Nat.zero_le _, by omega, rfl, K5.out⟩
  case round =>
  obtain ⟨i, hi, hi20, rfl, hk⟩ := hrel
  have HKr : Hid (Kept (fun _ => True) w4 wr) := hk
  by_cases hlt : i < os.length ∧ i < 20
  · obtain ⟨hlt, hlt2⟩ := hlt
    obtain ⟨b, off, rfl, hb, q0, q1, q2, q3⟩ := (HOv.out.all (KW4.out.trans hk)).at i hlt
    have i1 : (i : Int) < (os.length : Int) := by omega
    have i2 : (i : Int) < 20 := by omega
    have i0 : (0 : Int) ≤ (i : Int) := by omega
    have hT5 := (hk.block _ (lt_of_block HT4.out) trivial).trans HT4.out
    have hS5 := (hk.block _ (lt_of_block HS.out) trivial).trans HS.out
    clear hk
    generalize os[i] = op at *
    go_upto_region 9 with fail
    obtain ⟨⟨y0, y1, y2, y3⟩, _⟩ := four_cell hT5
    obtain ⟨⟨z0, z1, z2, z3⟩, _⟩ := four_cell hS5
    have Y0 := fun W (q : Kept (fun _ => True) wr W) => (kept_cell q (lt_of_block hT5) trivial).trans y0
    have Y1 := fun W (q : Kept (fun _ => True) wr W) => (kept_cell q (lt_of_block hT5) trivial).trans y1
    have Y2 := fun W (q : Kept (fun _ => True) wr W) => (kept_cell q (lt_of_block hT5) trivial).trans y2
    have Y3 := fun W (q : Kept (fun _ => True) wr W) => (kept_cell q (lt_of_block hT5) trivial).trans y3
    have Q0 := fun W (q : Kept (fun _ => True) wr W) => (kept_cell q (lt_of_block hS5) trivial).trans z0
    have Q1 := fun W (q : Kept (fun _ => True) wr W) => (kept_cell q (lt_of_block hS5) trivial).trans z1
    have Q2 := fun W (q : Kept (fun _ => True) wr W) => (kept_cell q (lt_of_block hS5) trivial).trans z2
    have Q3 := fun W (q : Kept (fun _ => True) wr W) => (kept_cell q (lt_of_block hS5) trivial).trans z3
    have O0 := fun W (q : Kept (fun _ => True) wr W) => (kept_cell q hb trivial).trans q0
    have O1 := fun W (q : Kept (fun _ => True) wr W) => (kept_cell q hb trivial).trans q1
    have O2 := fun W (q : Kept (fun _ => True) wr W) => (kept_cell q hb trivial).trans q2
    have O3 := fun W (q : Kept (fun _ => True) wr W) => (kept_cell q hb trivial).trans q3
    have kd : Kept (fun _ => True) wr wr.drew := (Kept.refl _ _).drew
    have HAp : Hid (∀ W, Kept (fun _ => True) wr W → Calls Tryd.prog 17 #[.agg #[.string ⟨L.toArray⟩, .slice aa an ac, .slice sa sn sc, .slice ma mn mc], .agg #[.string ⟨Z.toArray⟩, .slice a1 2 c1, .slice a2 2 c2, .slice a3 3 c3], .agg #[.int .i64 op.kind, .string ⟨op.cas.toArray⟩, .string ⟨op.name.toArray⟩, .int .i64 op.n]] W fun e w' => ∃ va vd vg, e = .returned (.tuple #[.agg #[.string ⟨(applyP t0 s1 op).1.type.toArray⟩, va, vd, vg], .string ⟨(applyP t0 s1 op).2.1.toArray⟩, .int .i64 ((applyP t0 s1 op).2.2 : Nat)]) ∧ So w' W.heap.size va vd vg (applyP t0 s1 op).1 ∧ Kept (fun _ => True) W w') := fun W q => apply_to (HTy4.out.all (HKr.out.trans q)) (StV.all HSt.out (HKr.out.trans q)) HG0.out HF1.out (HTb.out.all ((KW4.out.trans HKr.out).trans q)) op
    have hle : w.heap.size ≤ w.heap.size := Nat.le_refl _
    clear y0 y1 y2 y3 z0 z1 z2 z3 q0 q1 q2 q3 hb hT5 hS5 hle
    go_cut [7, 8, 9] from 44 to 54 (fun tA tB tC wx => ApR wr wx t0 s1 op tA tB tC)
    case first =>
      go_region_held3 (fun W => Kept (fun _ => True) wr W) (first | assumption | (repeat (first | exact Kept.refl _ _ | assumption | refine Kept.drew ?_ | refine Kept.alloc ?_ _ | refine Kept.setNew ?_ (by first | exact Nat.le_refl _ | exact p4.size | omega) _))) (first
        | (go_at_call 17; refine Calls.mono (HAp.out _ (by first | assumption | (repeat (first | exact Kept.refl _ _ | assumption | refine Kept.drew ?_ | refine Kept.alloc ?_ _ | refine Kept.setNew ?_ (by first | exact Nat.le_refl _ | exact p4.size | omega) _)))) ?_; rintro e v5 ⟨xa, xd, xg, rfl, hso, m5⟩; obtain ⟨b1, d1, b2, d2, b3, d3, rfl, rfl, rfl⟩ := hso.shapes; have HS5 : Hid _ := hso; have p5 : Kept (fun _ => True) wr v5 := Kept.trans (by first | assumption | (repeat (first | exact Kept.refl _ _ | assumption | refine Kept.drew ?_ | refine Kept.alloc ?_ _ | refine Kept.setNew ?_ (by first | exact Nat.le_refl _ | exact p4.size | omega) _))) m5; first | (have hz5 := (m5.block wr.heap.size (by simp) trivial).trans (heap_alloc_new wr.drew _); obtain ⟨⟨r0, r1, r2, r3⟩, e0, e1, e2, e3⟩ := four_cell hz5) | skip; clear m5 hso))
      all_goals
        go_wp2_with fail
        go_meet
        first
          | exact ⟨_, _, _, _, _, _, _, rfl, rfl, rfl, Ap.late p5 HS5.out (by first | exact Nat.le_refl _ | exact p4.size | simp)⟩
          | exact ⟨_, _, _, _, _, _, _, rfl, rfl, rfl, Ap.early p5 HS5.out hz5 (by first | exact Nat.le_refl _ | exact p4.size) (by first | exact lt_of_block hz4 | simp)⟩
    case rest =>
    obtain ⟨D, p1, p2, p3, d1, d2, d3, rfl, rfl, rfl, hap⟩ := hcut
    clear Y0 Y1 Y2 Y3 Q0 Q1 Q2 Q3 O0 O1 O2 O3 kd HAp
    have HFa : Hid ((applyP t0 s1 op).2.2 = 0 → Fit t0 (applyP t0 s1 op).1) := HF1.out.apply op
    have HAp : Hid (Ap wr wc t0 s1 op D p1 p2 p3 d1 d2 d3) := hap
    have hbx := hap.box
    have hso := hap.so
    have HLow : Hid (wr.heap.size ≤ D) := hap.low
    have HKc : Hid (Kept (fun _ => True) wr wc) := hap.kept
    clear hap HAp
    generalize applyP t0 s1 op = R at *
    obtain ⟨X, tx, c⟩ := R
    simp only at HFa hbx hso ⊢
    have HSo : Hid _ := hso
    have HBx : Hid _ := hbx
    have HNext : Hid (∀ W, Kept (· < wr.heap.size) wr W → Kept (fun _ => True) w4 W) := fun W q => HKr.out.then q (fun i hi _ => by have := HKr.out.size; show i < _; omega)
    have HTS : Hid (∀ W, Kept (· < wr.heap.size) wr W → W.heap[T]? = some (.cells #[.string ⟨L.toArray⟩, .slice aa an ac, .slice sa sn sc, .slice ma mn mc] 25 (0, 0)) ∧ W.heap[S]? = some (.cells #[.string ⟨Z.toArray⟩, .slice a1 2 c1, .slice a2 2 c2, .slice a3 3 c3] 31 (0, 0))) := fun W q => ⟨((HNext.out W q).block _ (lt_of_block HT4.out) trivial).trans HT4.out, ((HNext.out W q).block _ (lt_of_block HS.out) trivial).trans HS.out⟩
    by_cases hc0 : c = 0
    · subst hc0
      have hfit := HFa.out rfl
      have ev : X.vals.length = 2 := by rw [hfit.sz.vals, HAl.out]
      have ed : X.done.length = 2 := by rw [hfit.sz.done, HSl.out]
      rw [ev, ed] at hbx HSo HBx hso
      obtain ⟨⟨x0, x1, x2, x3⟩, _⟩ := four_cell hbx
      have hrow := hso.vals
      rw [ev] at hrow
      have hrow2 := hso.done
      rw [ed] at hrow2
      obtain ⟨gv, rfl⟩ : ∃ g, p1 = some ⟨g, 0, none⟩ := by
        obtain ⟨ao', cap', e, _, _, h0⟩ := own_form hrow
        cases e
        exact h0 (by omega)
      obtain ⟨gd, rfl⟩ : ∃ g, p2 = some ⟨g, 0, none⟩ := by
        obtain ⟨ao', cap', e, _, _, h0⟩ := own_form hrow2
        cases e
        exact h0 (by omega)
      have cv := hrow.cellAt 0 (by omega)
      obtain ⟨n0, hn0⟩ : ∃ n : Int, (iv X.vals)[0]? = some (.int .i64 n) := ⟨_, iv_at X.vals 0 (by omega)⟩
      rw [hn0] at cv
      have fv := hrow.frozenAt 0
      have cd := hrow2.cellAt 1 (by omega)
      obtain ⟨d0, hd0⟩ : ∃ d : Bool, (bv X.done)[1]? = some (.bool d) := ⟨X.done[1]'(by omega), by simp [bv, ed]⟩
      rw [hd0] at cd
      have hDv : D ≠ gv := fun e => by
        rcases hrow.2 with ⟨q, _⟩ | ⟨g', c', cur, q, _, hg', _⟩
        · cases (Value.slice.inj q).1
        · cases (Value.slice.inj q).1
          rw [← e, hbx] at hg'
          simp at hg'
      have hDd : D ≠ gd := fun e => by
        rcases hrow2.2 with ⟨q, _⟩ | ⟨g', c', cur, q, _, hg', _⟩
        · cases (Value.slice.inj q).1
        · cases (Value.slice.inj q).1
          rw [← e, hbx] at hg'
          simp at hg'
      have hvd : gv ≠ gd := fun e => types_differ hrow hrow2 gv rfl (by rw [e]; rfl)
      have kv : Kept (· ≠ gv) wc (wc.setCell ⟨gv, 0, none⟩ (.int .i64 77)) := (Kept.refl _ _).setCell (by simp) _
      have hbx1 := (kv.block D (lt_of_block hbx) hDv).trans hbx
      have hrow3 := own_keep hrow2 kv (fun k e q => hvd (by rw [← q]; simpa [Value.ownBlock] using e.symm))
      have cd1 := (kept_cell kv (hrow2.lt gd rfl).2 (o := 1) (Ne.symm hvd)).trans cd
      have fd1 := hrow3.frozenAt 1
      have HGd1 : Hid (gd < (wc.setCell ⟨gv, 0, none⟩ (.int .i64 77)).heap.size) := (hrow3.lt gd rfl).2
      have HGl2 : Hid (wr.heap.size ≤ gv ∧ wr.heap.size ≤ gd) := ⟨(hrow.lt gv rfl).1, (hrow2.lt gd rfl).1⟩
      have KV1 : Hid (Kept (· < wr.heap.size) wr (wc.setCell ⟨gv, 0, none⟩ (.int .i64 77))) := (HKc.out.mono fun _ _ _ => trivial).trans ((Kept.refl _ _).setCell (by simp; exact HGl2.out.1) _)
      clear hrow hrow2 hrow3 hso hbx kv cd hDv hDd hvd hfit ev ed hn0 hd0
      go_upto_region 12 with fail
      generalize wc.setCell ⟨gv, 0, none⟩ (.int .i64 77) = w6 at *
      clear x0 x1 x2 x3 cv fv
      obtain ⟨⟨x0, x1, x2, x3⟩, _⟩ := four_cell hbx1
      have X2 := fun W (q : Kept (fun _ => True) w6 W) => (kept_cell q (lt_of_block hbx1) trivial).trans x2
      have C1 := fun W (q : Kept (fun _ => True) w6 W) => (kept_cell q HGd1.out trivial).trans cd1
      have kd : Kept (fun _ => True) w6 w6.drew := (Kept.refl _ _).drew
      have cd2 : w6.drew.cell? ⟨gd, 1, none⟩ = some (.bool d0) := cd1
      have fd2 : w6.drew.frozen? ⟨gd, 1, none⟩ = false := fd1
      refine Gz.begin (fun W => Kept (fun _ => True) w6 W) (fun i => decide (7 ≤ i)) (by kernel_rfl) ?_
      refine Gz.take (i := 0) (oi := { dst := some 72, op := Op.fieldAddr 31 (Operand.tmp 7) 2, type := 0, pos := _, after := #[], guard := none }) (v := ?_) rfl (by kernel_rfl) (by kernel_rfl) (by kernel_rfl) (by kernel_rfl) (fun _ _ _ h => h) (Or.inl ⟨by rfl, ?hy0⟩) kd ?_
      case hy0 => (intro W hSw; (try dsimp only at hSw); go_simp; try with_reducible rfl)
      try simp only [Act.put, List.setIfInBounds_toArray, List.set_cons_zero, List.set_cons_succ]
      refine Gz.take (i := 1) (oi := { dst := some 73, op := Op.load 29 (Operand.tmp 72), type := 29, pos := _, after := #[{ on := 0, ground := Ground.data }], guard := none }) (v := ?_) rfl (by kernel_rfl) (by kernel_rfl) (by kernel_rfl) (by kernel_rfl) (fun _ _ _ h => h) (Or.inl ⟨by rfl, ?hy1⟩) kd ?_
      case hy1 => (intro W hSw; (try dsimp only at hSw); go_simp; try with_reducible rfl)
      try simp only [Act.put, List.setIfInBounds_toArray, List.set_cons_zero, List.set_cons_succ]
      refine Gz.take (i := 2) (oi := { dst := some 74, op := Op.fieldAddr 31 (Operand.tmp 7) 2, type := 0, pos := _, after := #[], guard := none }) (v := ?_) rfl (by kernel_rfl) (by kernel_rfl) (by kernel_rfl) (by kernel_rfl) (fun _ _ _ h => h) (Or.inl ⟨by rfl, ?hy2⟩) kd ?_
      case hy2 => (intro W hSw; (try dsimp only at hSw); go_simp; try with_reducible rfl)
      try simp only [Act.put, List.setIfInBounds_toArray, List.set_cons_zero, List.set_cons_succ]
      refine Gz.take (i := 3) (oi := { dst := some 75, op := Op.load 29 (Operand.tmp 74), type := 29, pos := _, after := #[{ on := 2, ground := Ground.data }], guard := none }) (v := ?_) rfl (by kernel_rfl) (by kernel_rfl) (by kernel_rfl) (by kernel_rfl) (fun _ _ _ h => h) (Or.inl ⟨by rfl, ?hy3⟩) kd ?_
      case hy3 => (intro W hSw; (try dsimp only at hSw); go_simp; try with_reducible rfl)
      try simp only [Act.put, List.setIfInBounds_toArray, List.set_cons_zero, List.set_cons_succ]
      refine Gz.take (i := 4) (oi := { dst := some 76, op := Op.indexAddr 29 (Operand.tmp 75) (Operand.const (Value.int IntKind.i64 1)), type := 0, pos := _, after := #[{ on := 3, ground := Ground.data }], guard := none }) (v := ?_) rfl (by kernel_rfl) (by kernel_rfl) (by kernel_rfl) (by kernel_rfl) (fun _ _ _ h => h) (Or.inl ⟨by rfl, ?hy4⟩) kd ?_
      case hy4 => (intro W hSw; (try dsimp only at hSw); go_simp; try with_reducible rfl)
      try simp only [Act.put, List.setIfInBounds_toArray, List.set_cons_zero, List.set_cons_succ]
      refine Gz.take (i := 5) (oi := { dst := some 77, op := Op.load 4 (Operand.tmp 76), type := 4, pos := _, after := #[{ on := 4, ground := Ground.data }], guard := none }) (v := ?_) rfl (by kernel_rfl) (by kernel_rfl) (by kernel_rfl) (by kernel_rfl) (fun _ _ _ h => h) (Or.inl ⟨by rfl, ?hy5⟩) kd ?_
      case hy5 => (intro W hSw; (try dsimp only at hSw); go_simp; try with_reducible rfl)
      try simp only [Act.put, List.setIfInBounds_toArray, List.set_cons_zero, List.set_cons_succ]
      refine Gz.take (i := 6) (oi := { dst := some 78, op := Op.unOp UnOp.not 4 (Operand.tmp 77), type := 4, pos := _, after := #[{ on := 5, ground := Ground.data }], guard := none }) (v := ?_) rfl (by kernel_rfl) (by kernel_rfl) (by kernel_rfl) (by kernel_rfl) (fun _ _ _ h => h) (Or.inl ⟨by rfl, ?hy6⟩) kd ?_
      case hy6 => (intro W hSw; (try dsimp only at hSw); go_simp; try with_reducible rfl)
      try simp only [Act.put, List.setIfInBounds_toArray, List.set_cons_zero, List.set_cons_succ]
      refine Gz.one (i := 7) (o := { dst := some 79, op := Op.indexAddr 29 (Operand.tmp 73) (Operand.const (Value.int IntKind.i64 1)), type := 0, pos := _, after := #[{ on := 1, ground := Ground.data }, { on := 0, ground := Ground.phase }, { on := 1, ground := Ground.phase }, { on := 2, ground := Ground.phase }, { on := 3, ground := Ground.phase }, { on := 4, ground := Ground.phase }, { on := 5, ground := Ground.phase }, { on := 6, ground := Ground.phase }], guard := none }) (by kernel_rfl) rfl (fun K hK => ?_)
      go_simp
      refine hK.out _ _ (fun hEarly => by cases hEarly) ?_
      clear hK K
      try simp only [Act.put, List.setIfInBounds_toArray, List.set_cons_zero, List.set_cons_succ]
      refine Gz.one (i := 8) (o := { dst := none, op := Op.store 4 (Operand.tmp 79) (Operand.tmp 78), type := 0, pos := _, after := #[{ on := 7, ground := Ground.data }, { on := 6, ground := Ground.data }, { on := 0, ground := Ground.phase }, { on := 1, ground := Ground.phase }, { on := 2, ground := Ground.phase }, { on := 3, ground := Ground.phase }, { on := 4, ground := Ground.phase }, { on := 5, ground := Ground.phase }, { on := 6, ground := Ground.phase }], guard := none }) (by kernel_rfl) rfl (fun K hK => ?_)
      go_simp
      refine hK.out _ _ (fun hEarly => by cases hEarly) ?_
      clear hK K
      try simp only [Act.put, List.setIfInBounds_toArray, List.set_cons_zero, List.set_cons_succ]
      refine Gz.done (by kernel_rfl) ?_ _
      have KW6 : Hid (Kept (· < wr.heap.size) wr (w6.setCell ⟨gd, 1, none⟩ (.bool (!d0))).drew) := (KV1.out.setCell (by simp; exact HGl2.out.2) _).drew
      obtain ⟨h1, h2⟩ := HTS.out _ KW6.out
      clear x0 x1 x2 x3 X2 C1 kd cd1 cd2 fd1 fd2 hbx1
      generalize (w6.setCell ⟨gd, 1, none⟩ (.bool (!d0))).drew = w7 at *
      obtain ⟨⟨y0, y1, y2, y3⟩, _⟩ := four_cell h1
      obtain ⟨⟨z0, z1, z2, z3⟩, _⟩ := four_cell h2
      clear h1 h2
      go_wp2_with fail
      refine Calls.mono (HTt.out _ (HNext.out _ KW6.out)) ?_
      rintro e w8 ⟨rfl, k8⟩
      have K8 : Hid (Kept (fun _ => True) w4 w8) := (HNext.out _ KW6.out).trans k8
      clear y0 y1 y2 y3 z0 z1 z2 z3 k8
      go_wp2_with fail
      go_roundw
      case rel => exact ⟨i + 1, by omega, by omega, by go_num, K8.out⟩
      case measure => simp [intOf]; omega
    · have hc1 : ((c : Int) == 0) = false := by simp; omega
      have KL : Hid (Kept (· < wr.heap.size) wr wc) := HKc.out.mono fun _ _ _ => trivial
      obtain ⟨h1, h2⟩ := HTS.out _ KL.out
      obtain ⟨⟨y0, y1, y2, y3⟩, _⟩ := four_cell h1
      obtain ⟨⟨z0, z1, z2, z3⟩, _⟩ := four_cell h2
      clear hc0 hbx hso h1 h2
      go_wp2_with fail
      refine Calls.mono (HTt.out _ (HNext.out _ KL.out)) ?_
      rintro e w7 ⟨rfl, k7⟩
      have K7 : Hid (Kept (fun _ => True) w4 w7) := (HNext.out _ KL.out).trans k7
      clear y0 y1 y2 y3 z0 z1 z2 z3 k7
      go_wp2_with fail
      go_roundw
      case rel => exact ⟨i + 1, by omega, by omega, by go_num, K7.out⟩
      case measure => simp [intOf]; omega
  · have hS5 := (hk.block _ (lt_of_block HS.out) trivial).trans HS.out
    have ka : Kept (fun _ => True) wr (wr.alloc (.cells #[.int .i64 5, .int .i64 0] 3)) := (Kept.refl _ _).alloc _
    have hn := heap_alloc_new wr (.cells #[.int .i64 5, .int .i64 0] 3)
    have hcv : Cv wr (.slice a1 2 c1) (iv [5, 0]) := by
      obtain ⟨va, _, _, e, h1, _, _⟩ := StV.all HSt.out hk
      cases e
      rw [HVl.out] at h1
      exact h1
    have cs := same_book (xs := [5, 0]) (hcv.all ka) (Cv.two hn) (by decide)
    have KW9 : Hid (Kept (fun _ => True) w (wr.alloc (.cells #[.int .i64 5, .int .i64 0] 3))) := (KW4.out.trans hk).alloc _
    obtain ⟨⟨z0, z1, z2, z3⟩, _⟩ := four_cell hS5
    have hor : ¬ i < os.length ∨ (i < os.length ∧ ¬ i < 20) := by omega
    clear hk hcv ka hn hS5 hlt
    rcases hor with h1 | ⟨h1, h2⟩
    · have i1 : ¬ (i : Int) < (os.length : Int) := by omega
      go_wp2_with fail
      refine Calls.mono cs ?_
      rintro e w9 ⟨rfl, k9⟩
      have ckn := known_any (HTb.out.all (KW9.out.trans k9))
      have K9 : Hid (Kept (fun _ => True) w w9) := KW9.out.trans k9
      clear cs z0 z1 z2 z3 k9
      go_wp2_with fail
      refine Calls.mono ckn ?_
      rintro e w10 ⟨rfl, k10⟩
      go_wp2_with fail
      go_ret
      exact ⟨rfl, K9.out.trans k10⟩
    · have i1 : (i : Int) < (os.length : Int) := by omega
      have i2 : ¬ (i : Int) < 20 := by omega
      go_wp2_with fail
      refine Calls.mono cs ?_
      rintro e w9 ⟨rfl, k9⟩
      have ckn := known_any (HTb.out.all (KW9.out.trans k9))
      have K9 : Hid (Kept (fun _ => True) w w9) := KW9.out.trans k9
      clear cs z0 z1 z2 z3 k9
      go_wp2_with fail
      refine Calls.mono ckn ?_
      rintro e w10 ⟨rfl, k10⟩
      go_wp2_with fail
      go_ret
      exact ⟨rfl, K9.out.trans k10⟩

end Go.Proofs.YtnddpalngjmhnaaDoor
