/-
  The law SchemaOrder.
-/
import Derived.Test.YtahbfffhkpojmaaDoorLawSch3
import Derived.Test.YtahbfffhkpojmaaDoorTR4
namespace Go.Proofs.YtahbfffhkpojmaaDoor
open Go.RowKit

theorem loan_right : right loan = 0 := by decide +kernel
theorem loan_tight : tightB loan = true := by decide +kernel

theorem four_at {w : World} {b : Nat} {x y z u c : Value} {t : TypeId} {o : Nat} (h : w.heap[b]? = some (.cells #[x, y, z, u] t (0, 0))) (hc : w.cell? ⟨b, o, none⟩ = some c) : (o = 0 ∧ c = x) ∨ c = y ∨ c = z ∨ c = u := by
  rcases o with _ | _ | _ | _ | o
  · simp [World.cell?, h] at hc; exact .inl ⟨rfl, hc.symm⟩
  · simp [World.cell?, h] at hc; exact .inr (.inl hc.symm)
  · simp [World.cell?, h] at hc; exact .inr (.inr (.inl hc.symm))
  · simp [World.cell?, h] at hc; exact .inr (.inr (.inr hc.symm))
  · simp [World.cell?, h] at hc
/-- Neither attributes nor rules lie in a type's own cells. -/
theorem Av.apart {w : World} {v : Value} {xs : List At} {b : Nat} {s : ByteArray} {a1 a2 a3 : Option Addr} {n1 n2 n3 c1 c2 c3 : Nat} {t : TypeId} (h : Av w v xs) (h0 : 0 < xs.length) (hb : w.heap[b]? = some (.cells #[.string s, .slice a1 n1 c1, .slice a2 n2 c2, .slice a3 n3 c3] t (0, 0))) : ∀ i, v.ownBlock = some i → i ≠ b := by
  obtain ⟨ao, cap, rfl, _, _, h⟩ := h
  obtain ⟨g, off, rfl, _, hc⟩ := h h0
  intro i hi e
  subst e
  have : g = i := by simpa [Value.ownBlock] using hi
  subst this
  have c1 := (hc 0 h0).2.1
  rcases four_at hb c1 with ⟨_, e⟩ | e | e | e <;> cases e
theorem Rv.apart {w : World} {v : Value} {xs : List Ru} {b : Nat} {s : ByteArray} {a1 a2 a3 : Option Addr} {n1 n2 n3 c1 c2 c3 : Nat} {t : TypeId} (h : Rv w v xs) (h0 : 0 < xs.length) (hb : w.heap[b]? = some (.cells #[.string s, .slice a1 n1 c1, .slice a2 n2 c2, .slice a3 n3 c3] t (0, 0))) : ∀ i, v.ownBlock = some i → i ≠ b := by
  obtain ⟨ao, cap, rfl, _, _, h⟩ := h
  obtain ⟨g, off, rfl, _, hc⟩ := h h0
  intro i hi e
  subst e
  have : g = i := by simpa [Value.ownBlock] using hi
  subst this
  have c1 := (hc 0 h0).2
  rcases four_at hb c1 with ⟨e, _⟩ | e | e | e
  · omega
  all_goals cases e
theorem set_type4 {w : World} {b : Nat} {x : Ty} {s : ByteArray} {a1 a2 a3 : Option Addr} {n1 n2 n3 c1 c2 c3 : Nat} {ao so mo : Option Addr} {an ac sn sc mn mc : Nat} (hb : w.heap[b]? = some (.cells #[.string s, .slice a1 n1 c1, .slice a2 n2 c2, .slice a3 n3 c3] 26 (0, 0)))
    (h : TyV w (.agg #[.string ⟨x.name.toArray⟩, .slice ao an ac, .slice so sn sc, .slice mo mn mc]) x) (h1 : 0 < x.attrs.length) (h2 : 0 < x.stages.length) (h3 : 0 < x.marks.length) :
    Bx ((((w.setCell ⟨b, 0, none⟩ (.string ⟨x.name.toArray⟩)).setCell ⟨b, 1, none⟩ (.slice ao an ac)).setCell ⟨b, 2, none⟩ (.slice so sn sc)).setCell ⟨b, 3, none⟩ (.slice mo mn mc)) b x := by
  have k : Kept (fun i => i ≠ b) w ((((w.setCell ⟨b, 0, none⟩ (.string ⟨x.name.toArray⟩)).setCell ⟨b, 1, none⟩ (.slice ao an ac)).setCell ⟨b, 2, none⟩ (.slice so sn sc)).setCell ⟨b, 3, none⟩ (.slice mo mn mc)) := ((((Kept.refl _ _).setCell (by simp) _).setCell (by simp) _).setCell (by simp) _).setCell (by simp) _
  refine ⟨ao, an, ac, so, sn, sc, mo, mn, mc, ?_, ?_⟩
  · have e1 := heap_setCell_same w b 0 _ _ (.string ⟨x.name.toArray⟩) hb
    have e2 := heap_setCell_same _ b 1 _ _ (.slice ao an ac) e1
    have e3 := heap_setCell_same _ b 2 _ _ (.slice so sn sc) e2
    have e4 := heap_setCell_same _ b 3 _ _ (.slice mo mn mc) e3
    exact e4
  · obtain ⟨va, vs, vm, e, g1, g2, g3⟩ := h
    have e' : va = .slice ao an ac ∧ vs = .slice so sn sc ∧ vm = .slice mo mn mc := by
      simp only [Value.agg.injEq] at e
      have := congrArg Array.toList e
      simp only [List.cons.injEq, and_true, true_and] at this
      exact ⟨this.1.symm, this.2.1.symm, this.2.2.symm⟩
    obtain ⟨rfl, rfl, rfl⟩ := e'
    exact ⟨_, _, _, rfl, g1.kept k (g1.apart h1 hb), g2.kept k (g2.apart h2 hb), g3.kept k (g3.apart h3 hb)⟩
theorem kept_new4 {w w3 : World} {b : Nat} (h : Kept (fun _ => True) w w3) (hb : w.heap.size ≤ b) (x0 x1 x2 x3 : Value) : Kept (fun _ => True) w ((((w3.setCell ⟨b, 0, none⟩ x0).setCell ⟨b, 1, none⟩ x1).setCell ⟨b, 2, none⟩ x2).setCell ⟨b, 3, none⟩ x3) := by
  have one : ∀ {w' : World} (i : Nat) (x : Value), Kept (fun _ => True) w w' → Kept (fun _ => True) w (w'.setCell ⟨b, i, none⟩ x) := fun i x h =>
    ⟨h.os, h.tape, h.output, by simpa [World.setCell] using h.size, fun k hk hp => (Below.heap_setCell _ _ _ _ (by simp; omega)).trans (h.block k hk hp)⟩
  exact one _ _ (one _ _ (one _ _ (one _ _ h)))

theorem Bx.form {w : World} {b : Nat} {x : Ty} (h : Bx w b x) : ∃ ao ac so sc mo mc, w.heap[b]? = some (.cells #[.string ⟨x.name.toArray⟩, .slice ao x.attrs.length ac, .slice so x.stages.length sc, .slice mo x.marks.length mc] 26 (0, 0)) ∧ Av w (.slice ao x.attrs.length ac) x.attrs ∧ Rv w (.slice so x.stages.length sc) x.stages ∧ Rv w (.slice mo x.marks.length mc) x.marks := by
  obtain ⟨ao, an, ac, so, sn, sc, mo, mn, mc, hb, va, vs, vm, e, g1, g2, g3⟩ := h
  have e' : va = .slice ao an ac ∧ vs = .slice so sn sc ∧ vm = .slice mo mn mc := by
    simp only [Value.agg.injEq] at e
    have := congrArg Array.toList e
    simp only [List.cons.injEq, and_true, true_and] at this
    exact ⟨this.1.symm, this.2.1.symm, this.2.2.symm⟩
  obtain ⟨rfl, rfl, rfl⟩ := e'
  obtain ⟨_, _, e1, _⟩ := g1.form
  obtain ⟨_, _, e2, _⟩ := g2.form
  obtain ⟨_, _, e3, _⟩ := g3.form
  injection e1 with _ e1 _
  injection e2 with _ e2 _
  injection e3 with _ e3 _
  subst e1 e2 e3
  exact ⟨_, _, _, _, _, _, hb, g1, g2, g3⟩
/-- A type without stages and marks. -/
def bare (x : Ty) : Ty := ⟨x.name, x.attrs, [], []⟩
theorem write_bare (x : Ty) : write (bare x) = pT x.name ++ x.attrs.flatMap (fun a => semi (pA a)) := by simp [write, bare]

set_option maxRecDepth 100000 in
set_option maxHeartbeats 16000000 in
theorem schemaOrder_any {w : World} {v : Value} {t : Ty} (h : TyV w v t) (hz : Tsz t) (ht : Tab w) :
    Calls Tryd.prog 6 #[v] w fun e w' => e = .returned (.bool true) ∧ Kept (fun _ => True) w w' := by
  have HZ : Hid (Tsz t) := hz
  have HTab : Hid (Tab w) := ht
  obtain ⟨ao, an, ac, so, sn, sc, mo, mn, mc, rfl⟩ := h.parts
  have k0 : Kept (fun _ => True) w (w.alloc (.cells #[.string ⟨t.name.toArray⟩, .slice ao an ac, .slice so sn sc, .slice mo mn mc] 26)) := (Kept.refl _ _).alloc _
  have hb0 := heap_alloc_new w (.cells #[.string ⟨t.name.toArray⟩, .slice ao an ac, .slice so sn sc, .slice mo mn mc] 26)
  have HB : Hid _ := hb0
  have HV : Hid (TyV (w.alloc (.cells #[.string ⟨t.name.toArray⟩, .slice ao an ac, .slice so sn sc, .slice mo mn mc] 26)) (.agg #[.string ⟨t.name.toArray⟩, .slice ao an ac, .slice so sn sc, .slice mo mn mc]) t) := h.all k0
  have K0 : Hid _ := k0
  have c1 := right_any HV.out hz
  obtain ⟨⟨z0, z1, z2, z3⟩, _⟩ := four_cell hb0
  clear h hz ht k0 hb0
  go_enter Tryd.func6, Tryd.ntmps6
  go_upto_region 1 with fail
  generalize w.alloc (.cells #[.string ⟨t.name.toArray⟩, .slice ao an ac, .slice so sn sc, .slice mo mn mc] 26) = w1 at *
  obtain ⟨B, hBe⟩ : ∃ B, B = w.heap.size := ⟨_, rfl⟩
  have HBe : Hid (B = w.heap.size) := hBe
  rw [← hBe] at HB z0 z1 z2 z3 ⊢
  clear hBe
  go_cut [19] from 12 to 18 (fun t19 wx => t19 = .bool (!(decide (right t = 0) && tightB t)) ∧ Kept (fun _ => True) w1 wx)
  case first =>
    obtain ⟨cx, hcx⟩ : ∃ cx, cx = right t := ⟨_, rfl⟩
    rw [← hcx] at c1
    have HCX : Hid (cx = right t) := hcx
    clear hcx
    go_wp2_with fail
    refine Calls.mono c1 ?_
    rintro e w2 ⟨rfl, k2⟩
    have hb2 := (k2.block B (lt_of_block HB.out) trivial).trans HB.out
    have HV2 : Hid (TyV w2 (.agg #[.string ⟨t.name.toArray⟩, .slice ao an ac, .slice so sn sc, .slice mo mn mc]) t) := HV.out.all k2
    have HK2 : Hid (Kept (fun _ => True) w1 w2) := k2
    clear z0 z1 z2 z3
    obtain ⟨⟨z0, z1, z2, z3⟩, _⟩ := four_cell hb2
    clear c1 k2 hb2 HB HV K0
    by_cases hr : cx = 0
    · have hr0 : Hid (right t = 0) := by show _ = _; rw [← HCX.out, hr]
      subst hr
      obtain ⟨_, l1, l2, l3, _⟩ := right_few hr0.out
      have hgd := right_good hr0.out
      have c2 := tight_any HV2.out l2 l3 (fun r hr => by
        rcases List.mem_append.1 hr with hr | hr
        · have := (hgd.stages r hr).2.2; omega
        · have := (hgd.marks r hr).2.2; omega)
      obtain ⟨bt, hbt⟩ : ∃ bt, bt = tightB t := ⟨_, rfl⟩
      rw [← hbt] at c2
      have HBT : Hid (bt = tightB t) := hbt
      clear hbt hgd l1 l2 l3 HCX
      go_wp2_with fail
      refine Calls.mono c2 ?_
      rintro e w3 ⟨rfl, k3⟩
      have HK3 : Hid (Kept (fun _ => True) w1 w3) := HK2.out.trans k3
      clear c2 k3
      go_wp2_with fail
      go_meet
      exact ⟨by rw [hr0.out, ← HBT.out]; simp, HK3.out⟩
    · have hr1 : ((cx : Int) == 0) = false := by simp; omega
      have hr2 : ((cx : Int) != 0) = true := by simp; omega
      have hr3 : Hid (¬ right t = 0) := by show ¬ _; rw [← HCX.out]; exact hr
      clear HCX hr
      go_wp2_with fail
      go_meet
      exact ⟨by simp [hr3.out], HK2.out⟩
  case rest =>
  obtain ⟨rfl, hk1⟩ := hcut
  have HKc : Hid _ := hk1
  clear hk1 c1 z0 z1 z2 z3
  go_upto_if 19 with fail
  go_cut [] from 12 to 22 (fun wx => ∃ x : Ty, right x = 0 ∧ tightB x = true ∧ Bx wx B x ∧ Kept (fun _ => True) w wx)
  case first =>
    cases hb : (decide (right t = 0) && tightB t) with
    | true =>
      simp only [Bool.and_eq_true, decide_eq_true_eq] at hb
      have HH : Hid _ := hb
      clear hb
      go_wp2_with fail
      go_meet
      exact ⟨t, HH.out.1, HH.out.2, ⟨_, _, _, _, _, _, _, _, _, (HKc.out.block B (lt_of_block HB.out) trivial).trans HB.out, HV.out.all HKc.out⟩, K0.out.trans HKc.out⟩
    | false =>
      have c2 := types_any (w := wc)
      clear hb
      go_wp2_with fail
      refine Calls.mono c2 ?_
      rintro e w3 ⟨g, a, s, m, b, rfl, hg, hT, _, k3⟩
      have hB3 := ((HKc.out.trans k3).block B (lt_of_block HB.out) trivial).trans HB.out
      have HB3 : Hid _ := hB3
      have HG3 : Hid _ := hg
      have HT3 : Hid (TyV w3 (.agg #[.string ⟨loan.name.toArray⟩, a, s, m]) loan) := hT
      have HK3 : Hid (Kept (fun _ => True) w w3) := (K0.out.trans HKc.out).trans k3
      obtain ⟨qa, qan, qac, qs, qsn, qsc, qm, qmn, qmc, hq⟩ := hT.parts
      have hq' : a = .slice qa qan qac ∧ s = .slice qs qsn qsc ∧ m = .slice qm qmn qmc := by
        simp only [Value.agg.injEq] at hq
        have := congrArg Array.toList hq
        simp only [List.cons.injEq, and_true, true_and] at this
        exact this
      obtain ⟨rfl, rfl, rfl⟩ := hq'
      obtain ⟨⟨z0, z1, z2, z3⟩, f0, f1, f2, f3⟩ := four_cell hB3
      obtain ⟨y0, y1, y2, y3⟩ := two_types hg 0 (by decide)
      simp only [Nat.zero_mul, Nat.zero_add, if_true] at y0 y1 y2 y3
      clear c2 hB3 hg hT k3 HKc HV K0 HB hq
      go_wp2_with fail
      go_meet
      exact ⟨loan, loan_right, loan_tight, set_type4 HB3.out HT3.out (by decide) (by decide) (by decide), kept_new4 HK3.out (Nat.le_of_eq HBe.out.symm) _ _ _ _⟩
  case rest =>
  obtain ⟨x, hr, htt, hBx, hk⟩ := hcut
  have HK : Hid (Kept (fun _ => True) w wc) := hk
  have HR : Hid (right x = 0) := hr
  have HTT : Hid (tightB x = true) := htt
  obtain ⟨xo, xc, so, sc, mo, mc, hb, ha, hs, hm⟩ := hBx.form
  have HX : Hid _ := hb
  have HA : Hid (Av wc (.slice xo x.attrs.length xc) x.attrs) := ha
  have HS : Hid (Rv wc (.slice so x.stages.length sc) x.stages) := hs
  have HM : Hid (Rv wc (.slice mo x.marks.length mc) x.marks) := hm
  obtain ⟨⟨z0, z1, z2, z3⟩, _⟩ := four_cell hb
  obtain ⟨_, l1, l2, l3, l4⟩ := write_short hr
  obtain ⟨_, la, ls, lm, _⟩ := right_few hr
  obtain ⟨y0, hy0, j0⟩ := text_joins [116, 121, 112, 101, 32] x.name (by simp only [pT, List.length_append] at l1; omega)
  have HY0 : Hid (y0 = pT x.name) := hy0
  have L1 : Hid ((pT x.name ++ x.marks.flatMap (fun a => semi (pM a))).length ≤ 140737488355328) := by show _ ≤ _; rw [List.length_append]; omega
  have L2 : Hid ((pT x.name ++ x.marks.flatMap (fun a => semi (pM a)) ++ x.stages.flatMap (fun a => semi (pS a))).length ≤ 140737488355328) := by show _ ≤ _; rw [List.length_append, List.length_append]; omega
  have L3 : Hid ((pT x.name ++ x.marks.flatMap (fun a => semi (pM a)) ++ x.stages.flatMap (fun a => semi (pS a)) ++ x.attrs.flatMap (fun a => semi (pA a))).length ≤ 10000) := by show _ ≤ _; rw [List.length_append, List.length_append, List.length_append]; omega
  have L0 : Hid (y0.length ≤ 100) := by show _ ≤ _; rw [HY0.out]; exact l1
  clear hr htt hBx hk hb ha hs hm hy0 l1 l2 l3 l4 HKc HB HV K0 HZ
  clear z1 z2 z3
  go_wp2_with fail
  go_loopw [3, 4] (fun t3 ti wr => ∃ (i : Nat) (tx : List UInt8), i ≤ x.marks.length ∧ ti = .int .i64 i ∧ t3 = .string ⟨tx.toArray⟩ ∧ tx = pT x.name ++ (x.marks.take i).flatMap (fun a => semi (pM a)) ∧ Kept (fun _ => True) wc wr) (fun _ ti _ => x.marks.length - (intOf ti).toNat)
  case atStart => exact ⟨0, y0, Nat.zero_le _, rfl, rfl, by rw [HY0.out]; simp, Kept.refl _ _⟩
  case round =>
  obtain ⟨i, tx, hi, rfl, rfl, htx, hk⟩ := hrel
  have HTX : Hid (tx = pT x.name ++ (x.marks.take i).flatMap (fun a => semi (pM a))) := htx
  have HKr : Hid (Kept (fun _ => True) wc wr) := hk
  have hX2 := (hk.block B (lt_of_block HX.out) trivial).trans HX.out
  clear z0
  obtain ⟨⟨z0, z1, z2, z3⟩, _⟩ := four_cell hX2
  clear htx hk hX2
  by_cases hlt : i < x.marks.length
  · obtain ⟨b, off, rfl, hb, q0, q1⟩ := (HM.out.all HKr.out).at i hlt
    have HSt : Hid (tx ++ semi (pM x.marks[i]) = pT x.name ++ (x.marks.take (i + 1)).flatMap (fun a => semi (pM a))) := by show _ = _; rw [HTX.out, flat_take_succ _ _ _ hlt, List.append_assoc]
    obtain ⟨y1, y2, y3, y4, hy4, j1, j2, j3, j4⟩ := steps_rule tx [59, 32, 109, 97, 114, 107, 32] x.marks[i] (by rw [semi_mark, HSt.out]; exact len_take _ _ _ _ _ L1.out)
    have HY4 : Hid (y4 = pT x.name ++ (x.marks.take (i + 1)).flatMap (fun a => semi (pM a))) := by show _ = _; rw [hy4.out, semi_mark, HSt.out]
    have i1 : (i : Int) < (x.marks.length : Int) := by omega
    have i0 : (0 : Int) ≤ (i : Int) := by omega
    clear hb hy4 HSt
    generalize x.marks[i] = xx at *
    obtain ⟨xn, xg⟩ := xx
    simp only at q0 q1 j2 j4
    go_wp2_with fail
    go_quiet (fail)
    go_wp2_with fail
    go_roundw
    case rel => exact ⟨i + 1, y4, by omega, by go_num, rfl, HY4.out, HKr.out.drewN _⟩
    case measure => simp [intOf]; omega
  · have i1 : ¬ (i : Int) < (x.marks.length : Int) := by omega
    have HT2 : Hid (tx = pT x.name ++ x.marks.flatMap (fun a => semi (pM a))) := by show _ = _; rw [HTX.out, List.take_of_length_le (by omega)]
    clear HTX hlt
    go_wp2_with fail
    go_loopw [3, 5] (fun t3 ti wr => ∃ (i : Nat) (tx : List UInt8), i ≤ x.stages.length ∧ ti = .int .i64 i ∧ t3 = .string ⟨tx.toArray⟩ ∧ tx = pT x.name ++ x.marks.flatMap (fun a => semi (pM a)) ++ (x.stages.take i).flatMap (fun a => semi (pS a)) ∧ Kept (fun _ => True) wc wr) (fun _ ti _ => x.stages.length - (intOf ti).toNat)
    case atStart => exact ⟨0, _, Nat.zero_le _, rfl, rfl, by rw [HT2.out]; simp, HKr.out⟩
    case round =>
    obtain ⟨i, tx, hi, rfl, rfl, htx, hk⟩ := hrel
    have HTX : Hid (tx = pT x.name ++ x.marks.flatMap (fun a => semi (pM a)) ++ (x.stages.take i).flatMap (fun a => semi (pS a))) := htx
    have HKr : Hid (Kept (fun _ => True) wc wr) := hk
    have hX2 := (hk.block B (lt_of_block HX.out) trivial).trans HX.out
    obtain ⟨⟨z0, z1, z2, z3⟩, _⟩ := four_cell hX2
    clear htx hk hX2
    by_cases hlt : i < x.stages.length
    · obtain ⟨b, off, rfl, hb, q0, q1⟩ := (HS.out.all HKr.out).at i hlt
      have HSt : Hid (tx ++ semi (pS x.stages[i]) = pT x.name ++ x.marks.flatMap (fun a => semi (pM a)) ++ (x.stages.take (i + 1)).flatMap (fun a => semi (pS a))) := by show _ = _; rw [HTX.out, flat_take_succ _ _ _ hlt, List.append_assoc]
      obtain ⟨y1, y2, y3, y4, hy4, j1, j2, j3, j4⟩ := steps_rule tx [59, 32, 115, 116, 97, 103, 101, 32] x.stages[i] (by rw [semi_stage, HSt.out]; exact len_take _ _ _ _ _ L2.out)
      have HY4 : Hid (y4 = pT x.name ++ x.marks.flatMap (fun a => semi (pM a)) ++ (x.stages.take (i + 1)).flatMap (fun a => semi (pS a))) := by show _ = _; rw [hy4.out, semi_stage, HSt.out]
      have i1 : (i : Int) < (x.stages.length : Int) := by omega
      have i0 : (0 : Int) ≤ (i : Int) := by omega
      clear hb hy4 HSt
      generalize x.stages[i] = xx at *
      obtain ⟨xn, xg⟩ := xx
      simp only at q0 q1 j2 j4
      go_wp2_with fail
      go_quiet (fail)
      go_wp2_with fail
      go_roundw
      case rel => exact ⟨i + 1, y4, by omega, by go_num, rfl, HY4.out, HKr.out.drewN _⟩
      case measure => simp [intOf]; omega
    · have i1 : ¬ (i : Int) < (x.stages.length : Int) := by omega
      have HT2 : Hid (tx = pT x.name ++ x.marks.flatMap (fun a => semi (pM a)) ++ x.stages.flatMap (fun a => semi (pS a))) := by show _ = _; rw [HTX.out, List.take_of_length_le (by omega)]
      clear HTX hlt
      have hfit : Tfit (bare x) := fun a ha => right_fit HR.out a ha
      have hwb := write_bare x
      have hwl : (write (bare x)).length ≤ 10000 := by have := L3.out; rw [hwb, List.length_append]; simp only [List.length_append] at this; omega
      have ka : Kept (fun _ => True) wr (wr.alloc (.cells #[.string ⟨x.name.toArray⟩, .slice xo x.attrs.length xc, .slice none 0 0, .slice none 0 0] 26)) := (Kept.refl _ _).alloc _
      have hV : TyV (wr.alloc (.cells #[.string ⟨x.name.toArray⟩, .slice xo x.attrs.length xc, .slice none 0 0, .slice none 0 0] 26)) (.agg #[.string ⟨x.name.toArray⟩, .slice xo x.attrs.length xc, .slice none 0 0, .slice none 0 0]) (bare x) := ⟨_, _, _, rfl, (HA.out.all HKr.out).all ka, Rv.nil _, Rv.nil _⟩
      have c1 := write_any hV (HTab.out.all ((HK.out.trans HKr.out).trans ka)) hfit (by omega)
      obtain ⟨W2, hW2⟩ : ∃ W2, W2 = write (bare x) := ⟨_, rfl⟩
      rw [← hW2] at c1 hwb hwl
      have n1 := tcut W2 y0.length (by rw [hwb, HY0.out, List.length_append]; omega)
      have n2 := from_text W2 y0.length (by rw [hwb, HY0.out, List.length_append]; omega)
      have e1 : W2.take y0.length = y0 := by rw [hwb, HY0.out]; simp
      have e2 : W2.drop y0.length = x.attrs.flatMap (fun a => semi (pA a)) := by rw [hwb, HY0.out]; simp
      rw [e1] at n1
      rw [e2] at n2
      obtain ⟨R2, hR2⟩ : ∃ R2, R2 = x.attrs.flatMap (fun a => semi (pA a)) := ⟨_, rfl⟩
      rw [← hR2] at n2
      have hlx : tx.length + R2.length ≤ 10000 := by rw [HT2.out, hR2, ← List.length_append]; exact L3.out
      obtain ⟨yy, hyy, j1⟩ := text_joins tx R2 (by omega)
      have hread : read yy = (x, 0, 0) := by rw [hyy.out, HT2.out, hR2]; exact read_order HR.out HTT.out
      have hyl : yy.length ≤ 10000 := by rw [hyy.out, List.length_append]; exact hlx
      have c2 := fun W => reads_any (w := W) yy (by omega)
      rw [hread] at c2
      have i2 : ¬ (W2.length : Int) < (y0.length : Int) := by have := congrArg List.length e1; rw [List.length_take] at this; omega
      have HKa : Hid (Kept (fun _ => True) wc (wr.alloc (.cells #[.string ⟨x.name.toArray⟩, .slice xo x.attrs.length xc, .slice none 0 0, .slice none 0 0] 26))) := HKr.out.trans ka
      clear e1 e2 hR2 hyy hread hyl hwb hW2 hV ka hfit HKr HT2 hwl hlx
      go_wp2_with fail
      generalize wr.alloc (.cells #[.string ⟨x.name.toArray⟩, .slice xo x.attrs.length xc, .slice none 0 0, .slice none 0 0] 26) = w3 at *
      generalize wr.heap.size = Y at *
      refine Calls.mono c1 ?_
      rintro e w4 ⟨rfl, k4⟩
      have HK4 : Hid (Kept (fun _ => True) wc w4) := HKa.out.trans k4
      have hX4 := (HK4.out.block B (lt_of_block HX.out) trivial).trans HX.out
      clear z0 z1 z2 z3 c1 k4 HKa
      obtain ⟨⟨z0, z1, z2, z3⟩, _⟩ := four_cell hX4
      clear hX4
      go_wp2_with fail
      refine Calls.mono (c2 _) ?_
      rintro e w5 ⟨uv, rfl, hu, k5⟩
      obtain ⟨ua, uan, uac, us, usn, usc, um, umn, umc, rfl⟩ := hu.parts
      have k6 : Kept (fun _ => True) w4 (w5.alloc (.cells #[.string ⟨x.name.toArray⟩, .slice ua uan uac, .slice us usn usc, .slice um umn umc] 26)) := k5.alloc _
      have HU : Hid _ := heap_alloc_new w5 (.cells #[.string ⟨x.name.toArray⟩, .slice ua uan uac, .slice us usn usc, .slice um umn umc] 26)
      have HK6 : Hid (Kept (fun _ => True) wc (w5.alloc (.cells #[.string ⟨x.name.toArray⟩, .slice ua uan uac, .slice us usn usc, .slice um umn umc] 26))) := HK4.out.trans k6
      have HVu : Hid (TyV (w5.alloc (.cells #[.string ⟨x.name.toArray⟩, .slice ua uan uac, .slice us usn usc, .slice um umn umc] 26)) (.agg #[.string ⟨x.name.toArray⟩, .slice ua uan uac, .slice us usn usc, .slice um umn umc]) x) := hu.all ((Kept.refl _ _).alloc _)
      have HVx : Hid (TyV (w5.alloc (.cells #[.string ⟨x.name.toArray⟩, .slice ua uan uac, .slice us usn usc, .slice um umn umc] 26)) (.agg #[.string ⟨x.name.toArray⟩, .slice xo x.attrs.length xc, .slice so x.stages.length sc, .slice mo x.marks.length mc]) x) := ⟨_, _, _, rfl, HA.out.all HK6.out, HS.out.all HK6.out, HM.out.all HK6.out⟩
      have HNl : Hid ((nms x).length ≤ 100) := by show _ ≤ _; simp only [nms, List.length_append, List.length_map]; omega
      clear c2 hu k5 k6 z0 z1 z2 z3 HK4 n1 n2 j0 j1
      go_wp2_with fail
      generalize w5.alloc (.cells #[.string ⟨x.name.toArray⟩, .slice ua uan uac, .slice us usn usc, .slice um umn umc] 26) = w6 at *
      generalize w5.heap.size = U at *
      have hX6 := (HK6.out.block B (lt_of_block HX.out) trivial).trans HX.out
      obtain ⟨⟨x0, x1, x2, x3⟩, _⟩ := four_cell hX6
      obtain ⟨⟨u0, u1, u2, u3⟩, _⟩ := four_cell HU.out
      have X0 := fun W (q : Kept (fun _ => True) w6 W) => (kept_cell q (lt_of_block hX6) trivial).trans x0
      have X1 := fun W (q : Kept (fun _ => True) w6 W) => (kept_cell q (lt_of_block hX6) trivial).trans x1
      have X2 := fun W (q : Kept (fun _ => True) w6 W) => (kept_cell q (lt_of_block hX6) trivial).trans x2
      have X3 := fun W (q : Kept (fun _ => True) w6 W) => (kept_cell q (lt_of_block hX6) trivial).trans x3
      have U0 := fun W (q : Kept (fun _ => True) w6 W) => (kept_cell q (lt_of_block HU.out) trivial).trans u0
      have U1 := fun W (q : Kept (fun _ => True) w6 W) => (kept_cell q (lt_of_block HU.out) trivial).trans u1
      have U2 := fun W (q : Kept (fun _ => True) w6 W) => (kept_cell q (lt_of_block HU.out) trivial).trans u2
      have U3 := fun W (q : Kept (fun _ => True) w6 W) => (kept_cell q (lt_of_block HU.out) trivial).trans u3
      have kd : Kept (fun _ => True) w6 w6.drew := (Kept.refl _ _).drew
      clear x0 x1 x2 x3 u0 u1 u2 u3 hX6
      go_region_held3 (fun W => Kept (fun _ => True) w6 W) (assumption) (first
        | (go_at_call 9; refine Calls.mono (same_any (HVu.out.all (by assumption)) (HVx.out.all (by assumption))) ?_; rintro e v1 ⟨rfl, m1⟩; have p1 : Kept (fun _ => True) w6 v1 := Kept.trans (by assumption) m1; clear m1)
        | (go_at_call 13; refine Calls.mono (names_any (t := x) (by first | exact HVu.out.all (by assumption) | exact HVx.out.all (by assumption)) (by have := HNl.out; omega)) ?_; rintro e v2 ⟨nv, rfl, hn, m2⟩; obtain ⟨na, nc, rfl, _⟩ := hn.shape; (try (have HP : Hid (Txs v2 _ _ (nms x)) := Txs.kept HN.out m2 (fun _ _ => trivial))); have HN : Hid (Txs v2 _ _ (nms x)) := hn; have p2 : Kept (fun _ => True) w6 v2 := Kept.trans (by assumption) m2; clear m2 hn)
        | (go_at_call 12; refine Calls.mono (texts_same HP.out HN.out (by have := HNl.out; omega)) ?_; rintro e v3 ⟨rfl, m3⟩; have p3 : Kept (fun _ => True) w6 v3 := Kept.trans (by assumption) m3; clear m3)
        | (go_at_call 15; refine Calls.mono known_any ?_; rintro e v4 ⟨rfl, m4⟩; have p4 : Kept (fun _ => True) w6 v4 := Kept.trans (by assumption) m4; clear m4))
      all_goals
        go_wp2_with fail
        go_ret
        exact ⟨rfl, (HK.out.trans HK6.out).trans p4⟩

end Go.Proofs.YtahbfffhkpojmaaDoor
