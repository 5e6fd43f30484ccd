/-
  The document's vals, holds.
-/
import Derived.Test.YtnddpalngjmhnaaDoorV1
import Derived.Test.YtnddpalngjmhnaaDoorQR1
import Derived.Test.YtnddpalngjmhnaaDoorTR1
namespace Go.Proofs.YtnddpalngjmhnaaDoor
open Go.RowKit

set_option maxRecDepth 100000 in
set_option maxHeartbeats 8000000 in
theorem rvals_any {w : World} {v : Value} {s : Sa} (h : StV w v s) (f : Few s) :
    Calls Tryd.prog 57 #[v] w fun e w' => ∃ v', e = .returned v' ∧ Cv w' v' (iv (sees s)) ∧ Kept (fun _ => True) w w' := by
  obtain ⟨va, vd, vg, rfl, h1, h2, h3⟩ := h
  obtain ⟨l1, l2, l3⟩ := f
  obtain ⟨vo, vc, rfl, -, -⟩ := h1.ints
  obtain ⟨eo, ec, rfl, -, -⟩ := h2.bools
  obtain ⟨go, gc, rfl, -, -⟩ := h3.bools
  have k0 : Kept (fun _ => True) w (w.alloc (.cells #[.string ⟨s.type.toArray⟩, .slice vo s.vals.length vc, .slice eo s.done.length ec, .slice go s.got.length gc] 31)) := (Kept.refl _ _).alloc _
  have hX := heap_alloc_new w (.cells #[.string ⟨s.type.toArray⟩, .slice vo s.vals.length vc, .slice eo s.done.length ec, .slice go s.got.length gc] 31)
  replace h1 := h1.all k0
  replace h2 := h2.all k0
  replace h3 := h3.all k0
  obtain ⟨⟨z0, z1, z2, z3⟩, _⟩ := four_cell hX
  go_enter Tryd.func57, Tryd.ntmps57
  go_upto_region 1 with fail
  generalize w.alloc (.cells #[.string ⟨s.type.toArray⟩, .slice vo s.vals.length vc, .slice eo s.done.length ec, .slice go s.got.length gc] 31) = w1 at *
  obtain ⟨B, hB⟩ : ∃ B, B = w.heap.size := ⟨_, rfl⟩
  rw [← hB] at hX z0 z1 z2 z3 ⊢
  have K0 : Hid (Kept (fun _ => True) w w1) := k0
  have HV : Hid (Cv w1 (.slice vo s.vals.length vc) (iv s.vals)) := h1
  have HE : Hid (Cv w1 (.slice eo s.done.length ec) (bv s.done)) := h2
  have HG : Hid (Cv w1 (.slice go s.got.length gc) (bv s.got)) := h3
  have HX : Hid (w1.heap[B]? = some (.cells #[.string ⟨s.type.toArray⟩, .slice vo s.vals.length vc, .slice eo s.done.length ec, .slice go s.got.length gc] 31 (0, 0))) := hX
  have HL : Hid (s.vals.length ≤ 1000000) := l1
  have HL2 : Hid (s.done.length ≤ 1000000 ∧ s.got.length ≤ 1000000) := ⟨l2, l3⟩
  have z1a := (kept_cell ((Kept.refl (fun _ => True) w1).alloc (.cells #[] 3)) (lt_of_block hX) (o := 1) trivial).trans z1
  clear hB h1 h2 h3 hX k0
  go_upto_region 2 with (at_builtin; refine wpList_append_nums rfl (.tmp 7) (.tmp 9) rfl w1.heap.size (.slice (some ⟨w1.heap.size, 0, none⟩) 0 0) 0 [] rfl (empty_nums w1 w1.heap.size (Nat.le_refl _)) (by simp) (.slice vo s.vals.length vc) rfl (iv s.vals) (HV.out.all ((Kept.refl _ _).alloc _)) (iv_one _) (by rw [iv_len]; have := HL.out; omega) s.vals.length (by rw [iv_len]; omega) ?_; intro ao' cap' w2 hW hG hO; have HW : Hid (w2.ownsRow w1.heap.size 3 1 (.slice ao' s.vals.length cap') s.vals.length (iv s.vals)) := hW; have hk2 : Kept (fun _ => True) w1 w2 := ((Kept.refl _ _).alloc _).grown hG (fun k hk e => by simp [Value.ownBlock] at e; omega); have hX2 := (hk2.block B (lt_of_block HX.out) trivial).trans HX.out; obtain ⟨⟨y0, y1, y2, y3⟩, _⟩ := four_cell hX2; have HK2 : Hid (Kept (fun _ => True) w1 w2) := hk2; clear hW hG hO hk2)
  clear z0 z1 z2 z3 z1a
  have Y2 := fun W (q : Kept (fun _ => True) w2 W) => (kept_cell q (lt_of_block hX2) trivial).trans y2
  have Y3 := fun W (q : Kept (fun _ => True) w2 W) => (kept_cell q (lt_of_block hX2) trivial).trans y3
  have kd : Kept (fun _ => True) w2 w2.drew := (Kept.refl _ _).drew
  clear y0 y1 y2 y3 hX2
  obtain ⟨D, hD⟩ : ∃ D, D = s.done.length + s.got.length := ⟨_, rfl⟩
  have HD : Hid (D = s.done.length + s.got.length) := hD
  clear hD
  go_region_held3 (fun W => Kept (fun _ => True) w2 W) (first | assumption | exact Kept.alloc (by assumption) _) (first
    | (refine step_append_truths ?_ (.tmp 11) (.tmp 13) ?_ w2.heap.size (.slice (some ⟨w2.heap.size, 0, none⟩) 0 0) 0 [] ?_ (empty_truths w2.drew w2.heap.size (Nat.le_refl _)) (by simp) (.slice eo s.done.length ec) ?_ (bv s.done) (HE.out.all (HK2.out.trans (kd.alloc _))) (bv_one _) (by rw [bv_len]; have := HL2.out.1; omega) s.done.length (by rw [bv_len]; omega) ?_; rfl; rfl; rfl; rfl; intro ao1 cap1 w5 t1 gr1 at1; have k1 : Kept (fun _ => True) w2 w5 := (kd.alloc _).grown gr1 (fun q hq e => by simp [Value.ownBlock] at e; omega))
    | (refine step_append_truths ?_ (.tmp 14) (.tmp 16) ?_ w2.heap.size (.slice ao1 s.done.length cap1) s.done.length ([] ++ bv s.done) ?_ t1 k1.size (.slice go s.got.length gc) ?_ (bv s.got) (HG.out.all (HK2.out.trans k1)) (bv_one _) (by rw [bv_len]; have := HL2.out; omega) D (by rw [bv_len]; exact HD.out.symm) ?_; rfl; rfl; rfl; rfl; intro ao2 cap2 w6 t2 gr2 at2; have k2 : Kept (fun _ => True) w2 w6 := k1.grown gr2 (fun q hq e => by have := (World.ownsRow.lt t1 q e).1; omega)))
  all_goals
    have HB2 : Hid (w6.ownsRow w2.heap.size 4 1 (.slice ao2 D cap2) D (bv (s.done ++ s.got))) := by
      have := t2
      rw [List.nil_append, ← bv_append] at this
      exact this
    have HK6 : Hid (Kept (fun _ => True) w1 w6) := HK2.out.trans k2
    have HW6 : Hid (w6.ownsRow w1.heap.size 3 1 (.slice ao' s.vals.length cap') s.vals.length (iv s.vals)) := own_keep HW.out k2 (fun _ _ => trivial)
    have HDl : Hid ((s.done ++ s.got).length = D) := by show _ = _; rw [HD.out, List.length_append]
    have hdb : D ≤ 2000000 := by have := HL2.out; have := HD.out; omega
    clear t1 t2 gr1 gr2 at1 at2 k1 k2 Y2 Y3 kd HW HK2 HE HG HV
    obtain ⟨ds, hds⟩ : ∃ ds, ds = s.done ++ s.got := ⟨_, rfl⟩
    rw [← hds] at HB2 HDl
    have HDS : Hid (sees s = s.vals ++ ds.map tr) := by show _ = _; rw [hds]; rfl
    clear hds
    go_wp2_with fail
    go_loopw [3, 5, 6] (fun t3 ti _ wr => ∃ i : Nat, i ≤ D ∧ ti = .int .i64 i ∧ wr.ownsRow w1.heap.size 3 1 t3 (s.vals.length + i) (iv (s.vals ++ (ds.take i).map tr)) ∧ wr.ownsRow w2.heap.size 4 1 (.slice ao2 D cap2) D (bv ds) ∧ Kept (fun _ => True) w1 wr) (fun _ ti _ _ => D - (intOf ti).toNat)
    case atStart => exact ⟨0, Nat.zero_le _, rfl, by simpa using HW6.out, HB2.out, HK6.out⟩
    case round =>
    obtain ⟨i, hi, rfl, hT, hO2, hk⟩ := hrel
    obtain ⟨ao, cap, rfl⟩ := own_shape_any hT
    obtain ⟨L, hL⟩ : ∃ L, L = s.vals.length + i := ⟨_, rfl⟩
    rw [← hL] at hT ⊢
    have HT : Hid (wr.ownsRow w1.heap.size 3 1 (.slice ao L cap) L (iv (s.vals ++ (ds.take i).map tr))) := hT
    have HKr : Hid (Kept (fun _ => True) w1 wr) := hk
    have HLe : Hid (L = s.vals.length + i) := hL
    have HC2 : Hid (wr.ownsRow w2.heap.size 4 1 (.slice ao2 D cap2) D (bv ds)) := hO2
    have hC : Cv wr (.slice ao2 D cap2) (bv ds) := own_cv hO2 (by omega)
    clear hT hk hL hO2
    by_cases hlt : i < D
    · have hlt' : i < ds.length := by rw [HDl.out]; exact hlt
      obtain ⟨b, off, rfl, hb, hc⟩ := hC.boolAt i hlt'
      have HST : Hid (iv (s.vals ++ (ds.take (i + 1)).map tr) = iv (s.vals ++ (ds.take i).map tr) ++ [.int .i64 (tr ds[i])]) := sees_step _ hlt'
      have i1 : (i : Int) < (D : Int) := by omega
      have i0 : (0 : Int) ≤ (i : Int) := by omega
      clear hC
      generalize ds[i] = d at *
      have HNB : Hid (∀ n : Int, (wr.alloc (.cells #[.int .i64 n] 3)).heap[wr.heap.size]? = some (.cells #[.int .i64 n] 3 (0, 0))) := fun n => heap_alloc_new wr _
      clear hb
      cases d
      all_goals
        simp only [tr, if_true, if_false, Bool.false_eq_true] at HST
        go_wp2_with (at_builtin; refine wpList_append_nums rfl (.tmp 28) (.tmp 30) rfl w1.heap.size (.slice ao L cap) L (iv (s.vals ++ (ds.take i).map tr)) rfl (own_keep HT.out ((Kept.refl (fun _ => True) _).alloc _) (fun _ _ => trivial)) (by have h1 := HKr.out.size; simp; omega) (.slice (some ⟨wr.heap.size, 0, none⟩) 1 1) rfl _ (Cv.one_nums (HNB.out _)) (num_one _) (by have := HLe.out; have := HL.out; simp; omega) (L + 1) (by simp) ?_; intro aq cq w' hW hG hO; have HW4 : Hid _ := hW; have HGr : Hid (Kept (fun _ => True) w1 w') := (HKr.out.alloc _).grown hG (fun k hk e => by have := (World.ownsRow.lt HT.out k e).1; omega); have HGw : Hid (Kept (fun k => (Value.slice ao L cap).ownBlock ≠ some k) wr w') := ((Kept.refl _ _).alloc _).grown hG (fun k hk e q => q e); clear hW hG hO)
        go_roundw
        case rel =>
          refine ⟨i + 1, by omega, by go_num, ?_, ?_, HGr.out⟩
          · rw [HST.out, show s.vals.length + (i + 1) = L + 1 by have := HLe.out; omega]
            exact HW4.out
          · exact own_keep HC2.out HGw.out (fun k e q => types_differ HT.out HC2.out k q e)
        case measure => simp [intOf]; omega
    · have i1 : ¬ (i : Int) < (D : Int) := by omega
      have hie : i = D := by omega
      have HT4 : Hid (Cv wr (.slice ao L cap) (iv (sees s))) := by
        have := HT.out
        rw [hie, ← HDl.out, List.take_length] at this
        rw [HDS.out]
        exact own_cv this (by have := HLe.out; have := HL.out; omega)
      go_wp2_with fail
      go_ret
      exact ⟨_, rfl, HT4.out, K0.out.trans HKr.out⟩

set_option maxRecDepth 100000 in
set_option maxHeartbeats 4000000 in
theorem rholds_any {w : World} {tv sv : Value} {t : Ty} {s : Sa} (ht : TyV w tv t) (hs : StV w sv s) (f : Few s) (hm : (nms t).length ≤ 1000000) {g : List UInt8} (hg : g.length ≤ 10000) :
    Calls Tryd.prog 39 #[tv, sv, .string ⟨g.toArray⟩] w fun e w' => e = .returned (.bool (hld t s g)) ∧ Kept (fun _ => True) w w' := by
  have HT : Hid (TyV w tv t) := ht
  have HS : Hid (StV w sv s) := hs
  obtain ⟨tx0, tn, tc, so, sn, sc, mo, mn, mc, rfl⟩ := ht.parts
  obtain ⟨va, vd, vg, rfl, h1, h2, h3⟩ := hs
  obtain ⟨vo, vc, rfl, -, -⟩ := h1.ints
  obtain ⟨eo, ec, rfl, -, -⟩ := h2.bools
  obtain ⟨go, gc, rfl, -, -⟩ := h3.bools
  have hk : Kept (fun _ => True) w ((w.alloc (.cells #[.string ⟨t.name.toArray⟩, .slice tx0 tn tc, .slice so sn sc, .slice mo mn mc] 25)).alloc (.cells #[.string ⟨s.type.toArray⟩, .slice vo s.vals.length vc, .slice eo s.done.length ec, .slice go s.got.length gc] 31)) := ((Kept.refl _ _).alloc _).alloc _
  obtain ⟨x1, x2⟩ := alloc_two w (.cells #[.string ⟨t.name.toArray⟩, .slice tx0 tn tc, .slice so sn sc, .slice mo mn mc] 25) (.cells #[.string ⟨s.type.toArray⟩, .slice vo s.vals.length vc, .slice eo s.done.length ec, .slice go s.got.length gc] 31)
  have HF : Hid (Few s) := f
  have HM : Hid ((nms t).length ≤ 1000000) := hm
  have HGl : Hid (g.length ≤ 10000) := hg
  obtain ⟨R, hR⟩ : ∃ R, R = (evl (nms t) (sees s) g).1 := ⟨_, rfl⟩
  have HR : Hid (hld t s g = (R != 0)) := by show _ = _; rw [hR]; rfl
  have HR2 : Hid (R = (evl (nms t) (sees s) g).1) := hR
  rw [HR.out]
  clear h1 h2 h3 f hm hg hR
  go_enter Tryd.func39, Tryd.ntmps39
  go_wp2_with fail
  generalize (w.alloc (.cells #[.string ⟨t.name.toArray⟩, .slice tx0 tn tc, .slice so sn sc, .slice mo mn mc] 25)).alloc (.cells #[.string ⟨s.type.toArray⟩, .slice vo s.vals.length vc, .slice eo s.done.length ec, .slice go s.got.length gc] 31) = wb at *
  generalize w.heap.size = B at *
  obtain ⟨⟨y0, y1, y2, y3⟩, _⟩ := four_cell x1
  obtain ⟨⟨z0, z1, z2, z3⟩, _⟩ := four_cell x2
  have HK : Hid (Kept (fun _ => True) w wb) := hk
  have HT1 : Hid (TyV wb (.agg #[.string ⟨t.name.toArray⟩, .slice tx0 tn tc, .slice so sn sc, .slice mo mn mc]) t) := HT.out.all hk
  have HS1 : Hid (StV wb (.agg #[.string ⟨s.type.toArray⟩, .slice vo s.vals.length vc, .slice eo s.done.length ec, .slice go s.got.length gc]) s) := HS.out.all hk
  have X0 := fun W (q : Kept (fun _ => True) wb W) => (kept_cell q (lt_of_block x1) trivial).trans y0
  have X1 := fun W (q : Kept (fun _ => True) wb W) => (kept_cell q (lt_of_block x1) trivial).trans y1
  have X2 := fun W (q : Kept (fun _ => True) wb W) => (kept_cell q (lt_of_block x1) trivial).trans y2
  have X3 := fun W (q : Kept (fun _ => True) wb W) => (kept_cell q (lt_of_block x1) trivial).trans y3
  have U0 := fun W (q : Kept (fun _ => True) wb W) => (kept_cell q (lt_of_block x2) trivial).trans z0
  have U1 := fun W (q : Kept (fun _ => True) wb W) => (kept_cell q (lt_of_block x2) trivial).trans z1
  have U2 := fun W (q : Kept (fun _ => True) wb W) => (kept_cell q (lt_of_block x2) trivial).trans z2
  have U3 := fun W (q : Kept (fun _ => True) wb W) => (kept_cell q (lt_of_block x2) trivial).trans z3
  have kd : Kept (fun _ => True) wb wb.drew := (Kept.refl _ _).drew
  clear hk HT HS x1 x2 y0 y1 y2 y3 z0 z1 z2 z3
  go_region_held3 (fun W => Kept (fun _ => True) wb W) (assumption) (first
    | (go_at_call 56; refine Calls.mono (rnames_any (HT1.out.all (by assumption)) (by have := HM.out; omega)) ?_; rintro e v5 ⟨nv, rfl, hn, m5⟩; have HN1 : Hid (Ns v5 nv (nms t)) := hn.ns (by have := HM.out; omega); obtain ⟨na, nc, rfl, _⟩ := hn.shape; have p5 : Kept (fun _ => True) wb v5 := Kept.trans (by assumption) m5; clear m5 hn)
    | (go_at_call 57; refine Calls.mono (rvals_any (HS1.out.all (by assumption)) HF.out) ?_; rintro e v6 ⟨sv2, rfl, hn, m6⟩; have HN2 : Hid (Vi v6 sv2 (sees s)) := hn.vi; have HN3 : Hid (Ns v6 _ (nms t)) := HN1.out.all m6; obtain ⟨nb, nd, rfl, _⟩ := hn.ints; have p6 : Kept (fun _ => True) wb v6 := Kept.trans (by assumption) m6; clear m6 hn)
    | (go_at_call 55; have c := reval_any HN3.out HN2.out g HGl.out; rw [← HR2.out] at c; refine Calls.mono c ?_; clear c; rintro e v7 ⟨rfl, m7⟩; have p7 : Kept (fun _ => True) wb v7 := Kept.trans (by assumption) m7; clear m7))
  all_goals
    go_wp2_with fail
    go_ret
    exact ⟨rfl, HK.out.trans (by assumption)⟩

end Go.Proofs.YtnddpalngjmhnaaDoor
