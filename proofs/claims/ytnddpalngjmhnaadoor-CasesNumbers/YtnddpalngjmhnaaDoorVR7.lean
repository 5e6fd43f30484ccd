/-
  The document's Ready.
-/
import Derived.Test.YtnddpalngjmhnaaDoorV12
import Derived.Test.YtnddpalngjmhnaaDoorVR2
namespace Go.Proofs.YtnddpalngjmhnaaDoor
open Go.RowKit

set_option maxRecDepth 100000 in
set_option maxHeartbeats 8000000 in
theorem rready_any {w : World} {tv sv : Value} {t : Ty} {s : Sa} (ht : TyV w tv t) (hs : StV w sv s) (g : Good t) (f : Fit t s) :
    Calls Tryd.prog 27 #[tv, sv] w fun e w' => ∃ v, e = .returned v ∧ Txs w' w.heap.size v (readyP t s) ∧ Kept (fun _ => True) w w' := by
  have HTy : Hid (TyV w tv t) := ht
  have HSt : Hid (StV w sv s) := hs
  obtain ⟨ta, ts, tm, rfl, ha, hss, hkk⟩ := ht
  obtain ⟨ao, ac, rfl, la⟩ := ha.form
  obtain ⟨so, sc, rfl, ls⟩ := hss.form
  obtain ⟨mo, mc, rfl, lm⟩ := hkk.form
  obtain ⟨va, vd, vg, rfl, h1, h2, h3⟩ := hs
  obtain ⟨vo, vc, rfl, -, -⟩ := h1.ints
  obtain ⟨eo, ec, rfl, -, -⟩ := h2.bools
  obtain ⟨go, gc, rfl, -, -⟩ := h3.bools
  obtain ⟨x1, x2⟩ := alloc_two w (.cells #[.string ⟨t.name.toArray⟩, .slice ao t.attrs.length ac, .slice so t.stages.length sc, .slice mo t.marks.length mc] 25) (.cells #[.string ⟨s.type.toArray⟩, .slice vo s.vals.length vc, .slice eo s.done.length ec, .slice go s.got.length gc] 31)
  have hk1 : Kept (fun _ => True) w ((w.alloc (.cells #[.string ⟨t.name.toArray⟩, .slice ao t.attrs.length ac, .slice so t.stages.length sc, .slice mo t.marks.length mc] 25)).alloc (.cells #[.string ⟨s.type.toArray⟩, .slice vo s.vals.length vc, .slice eo s.done.length ec, .slice go s.got.length gc] 31)) := ((Kept.refl _ _).alloc _).alloc _
  have HF : Hid (Fit t s) := f
  have HGd : Hid (Good t) := g
  have HS : Hid (Rv _ (.slice so t.stages.length sc) t.stages) := hss.all hk1
  have HE : Hid (Cv _ (.slice eo s.done.length ec) (bv s.done)) := h2.all hk1
  have HT2 : Hid (TyV _ (.agg #[.string ⟨t.name.toArray⟩, .slice ao t.attrs.length ac, .slice so t.stages.length sc, .slice mo t.marks.length mc]) t) := HTy.out.all hk1
  have HS2 : Hid (StV _ (.agg #[.string ⟨s.type.toArray⟩, .slice vo s.vals.length vc, .slice eo s.done.length ec, .slice go s.got.length gc]) s) := HSt.out.all hk1
  have K2 : Hid _ := hk1
  have HB1 : Hid _ := x1
  have HB2 : Hid _ := x2
  have hns := g.ns
  have hdl : s.done.length ≤ 6 := by rw [f.sz.done]; exact hns
  clear ha hss hkk h1 h2 h3 x1 x2 hk1 g f HTy HSt
  go_enter Tryd.func27, Tryd.ntmps27
  go_upto_region 1 with fail
  generalize (w.alloc (.cells #[.string ⟨t.name.toArray⟩, .slice ao t.attrs.length ac, .slice so t.stages.length sc, .slice mo t.marks.length mc] 25)).alloc (.cells #[.string ⟨s.type.toArray⟩, .slice vo s.vals.length vc, .slice eo s.done.length ec, .slice go s.got.length gc] 31) = w2 at *
  obtain ⟨B, hBB⟩ : ∃ B, B = w.heap.size := ⟨_, rfl⟩
  rw [← hBB] at HB1 HB2 ⊢
  clear hBB
  go_wp2_with fail
  go_loopw [5, 6] (fun t5 ti wr => ∃ i : Nat, i ≤ t.stages.length ∧ ti = .int .i64 i ∧ Txs wr w2.heap.size t5 ((((t.stages.zip s.done).take i).filter (fun p => !p.2 && hld t s p.1.guard)).map (fun p => p.1.name)) ∧ Kept (fun _ => True) w2 wr) (fun _ ti _ => t.stages.length - (intOf ti).toNat)
  case atStart => exact ⟨0, Nat.zero_le _, rfl, Txs.nil _ _, Kept.refl _ _⟩
  case round =>
  obtain ⟨i, hi, rfl, hT, hk⟩ := hrel
  obtain ⟨to', tc', rfl, _, _⟩ := hT.shape
  have hln : ((((t.stages.zip s.done).take i).filter (fun p => !p.2 && hld t s p.1.guard)).map (fun p => p.1.name)).length ≤ 6 := by
    rw [List.length_map]
    refine Nat.le_trans (List.length_filter_le _ _) ?_
    rw [List.length_take, List.length_zip]
    omega
  have HLN : Hid _ := hln
  have HT : Hid (Txs wr w2.heap.size _ _) := hT
  have HKr : Hid (Kept (fun _ => True) w2 wr) := hk
  have hB1 := (hk.block _ (lt_of_block HB1.out) trivial).trans HB1.out
  have hB2 := (hk.block _ (lt_of_block HB2.out) trivial).trans HB2.out
  obtain ⟨⟨y0, y1, y2, y3⟩, _⟩ := four_cell hB1
  obtain ⟨⟨z0, z1, z2, z3⟩, _⟩ := four_cell hB2
  clear hT hk hln
  by_cases hlt : i < t.stages.length
  · have hv : i < s.done.length := by rw [HF.out.sz.done]; exact hlt
    obtain ⟨b, off, rfl, hb, q0, q1⟩ := (HS.out.all HKr.out).at i hlt
    obtain ⟨b2, off2, rfl, hb2, c0⟩ := (HE.out.all HKr.out).boolAt i hv
    have HST : Hid _ := ready_take HF.out.sz hlt
    have HRd : Hid (rdy t s i = (!(s.done[i]) && hld t s (t.stages[i]).guard)) := by
      show _ = _
      simp [rdy, List.getD_eq_getElem?_getD, hlt, hv]
    have i1 : (i : Int) < (t.stages.length : Int) := by omega
    have i2 : (i : Int) < (s.done.length : Int) := by omega
    have i0 : (0 : Int) ≤ (i : Int) := by omega
    have HGL : Hid ((t.stages[i]).guard.length ≤ 10000) := by
      have := HGd.out.guards _ (List.mem_append.2 (.inl (List.getElem_mem hlt)))
      show _ ≤ _
      omega
    generalize hNs : (((t.stages.zip s.done).take i).filter (fun p => !p.2 && hld t s p.1.guard)).map (fun p => p.1.name) = ns at *
    clear hNs
    generalize t.stages[i] = x at *
    generalize s.done[i] = dq at *
    generalize rdy t s i = rq at *
    cases dq with
    | true =>
      have HQ : Hid (Txs wr w2.heap.size (.slice to' ns.length tc') ((((t.stages.zip s.done).take (i + 1)).filter (fun p => !p.2 && hld t s p.1.guard)).map (fun p => p.1.name))) := by
        have h4 := HT.out
        have h5 := HST.out
        have h6 := HRd.out
        simp only [Bool.not_true, Bool.false_and] at h6
        rw [h6] at h5
        simp only [Bool.false_eq_true, if_false, List.append_nil] at h5
        show Txs _ _ _ _
        rw [h5]
        exact h4
      clear hB1 hB2 hb hb2
      go_wp2_with fail
      go_quiet (fail)
      go_wp2_with fail
      go_roundw
      case rel => exact ⟨i + 1, by omega, by go_num, Txs.kept (p := fun _ => True) HQ.out ((Kept.refl _ _).drewN _) (fun _ _ => trivial), HKr.out.drewN _⟩
      case measure => simp [intOf]; omega
    | false =>
      have HRd2 : Hid (rq = hld t s x.guard) := by show _ = _; rw [HRd.out]; simp
      have HCh : Hid (∀ W, Kept (fun _ => True) wr W → Calls Tryd.prog 39 #[.agg #[.string ⟨t.name.toArray⟩, .slice ao t.attrs.length ac, .slice (some ⟨b, off, none⟩) t.stages.length sc, .slice mo t.marks.length mc], .agg #[.string ⟨s.type.toArray⟩, .slice vo s.vals.length vc, .slice (some ⟨b2, off2, none⟩) s.done.length ec, .slice go s.got.length gc], .string ⟨x.guard.toArray⟩] W fun e w' => e = .returned (.bool rq) ∧ Kept (fun _ => True) W w') := fun W q => by
        rw [HRd2.out]
        exact rholds_any (HT2.out.all (HKr.out.trans q)) (StV.all HS2.out (HKr.out.trans q)) (HF.out.few HGd.out) (by have := HGd.out.few; omega) (by have := HGL.out; omega)
      have Y0 := fun W (q : Kept (fun _ => True) wr W) => (kept_cell q (lt_of_block hB1) trivial).trans y0
      have Y1 := fun W (q : Kept (fun _ => True) wr W) => (kept_cell q (lt_of_block hB1) trivial).trans y1
      have Y2 := fun W (q : Kept (fun _ => True) wr W) => (kept_cell q (lt_of_block hB1) trivial).trans y2
      have Y3 := fun W (q : Kept (fun _ => True) wr W) => (kept_cell q (lt_of_block hB1) trivial).trans y3
      have Z0 := fun W (q : Kept (fun _ => True) wr W) => (kept_cell q (lt_of_block hB2) trivial).trans z0
      have Z1 := fun W (q : Kept (fun _ => True) wr W) => (kept_cell q (lt_of_block hB2) trivial).trans z1
      have Z2 := fun W (q : Kept (fun _ => True) wr W) => (kept_cell q (lt_of_block hB2) trivial).trans z2
      have Z3 := fun W (q : Kept (fun _ => True) wr W) => (kept_cell q (lt_of_block hB2) trivial).trans z3
      have C0 := fun W (q : Kept (fun _ => True) wr W) => (kept_cell q hb2 trivial).trans c0
      have QG := fun W (q : Kept (fun _ => True) wr W) => (kept_cell q hb trivial).trans q1
      have QN := fun W (q : Kept (fun _ => True) wr W) => (kept_cell q hb trivial).trans q0
      have kd : Kept (fun _ => True) wr wr.drew := (Kept.refl _ _).drew
      go_upto_region 5 with fail
      clear y0 y1 y2 y3 z0 z1 z2 z3 c0 q0 q1 hb hb2
      go_region_held3 (fun W => Kept (fun _ => True) wr W) (assumption) (first
        | (go_at_call 39; refine Calls.mono (HCh.out _ (by assumption)) ?_; rintro e w4 ⟨rfl, k4⟩; have p4 : Kept (fun _ => True) wr w4 := Kept.trans (by assumption) k4; clear k4))
      all_goals
        have HK4 : Hid (Kept (fun _ => True) w2 w4) := HKr.out.trans p4
        have HT4 : Hid (Txs w4 w2.heap.size (.slice to' ns.length tc') ns) := Txs.kept HT.out p4 (fun _ _ => trivial)
        have n0 := QN _ p4
        have n1 := Y2 _ p4
        clear Y0 Y1 Y2 Y3 Z0 Z1 Z2 Z3 C0 QG QN kd p4 HCh hB1 hB2
        cases rq with
        | false =>
          have HQ : Hid (Txs w4 w2.heap.size (.slice to' ns.length tc') ((((t.stages.zip s.done).take (i + 1)).filter (fun p => !p.2 && hld t s p.1.guard)).map (fun p => p.1.name))) := by
            have h4 := HT4.out
            have h5 := HST.out
            simp only [Bool.false_eq_true, if_false, List.append_nil] at h5
            show Txs _ _ _ _
            rw [h5]
            exact h4
          go_wp2_with fail
          go_roundw
          case rel => exact ⟨i + 1, by omega, by go_num, HQ.out, HK4.out⟩
          case measure => simp [intOf]; omega
        | true =>
          have HNB : Hid (∀ o : Obj, (w4.alloc o).heap[w4.heap.size]? = some o) := fun o => heap_alloc_new w4 o
          go_wp2_with (at_builtin; refine wpList_append_text rfl (.tmp 31) (.tmp 38) rfl w2.heap.size (.slice to' ns.length tc') ns rfl (HT4.out.kept (p := fun _ => True) ((Kept.refl _ _).alloc _) (fun _ _ => trivial)) (by have h1 := HK4.out.size; simp; omega) w4.heap.size rfl x.name (0, 0) (HNB.out _) (by have := HLN.out; omega) ?_; intro ao' cap' w' hW hG hO; have HW : Hid (Txs w' w2.heap.size (.slice ao' (ns.length + 1) cap') (ns ++ [x.name])) := hW; have HGr : Hid (Kept (fun _ => True) w2 w') := (HK4.out.alloc _).grown hG (fun k hk e => by have := (World.ownsRow.lt HT4.out k e).1; omega); clear hW hG hO)
          go_roundw
          case rel =>
            refine ⟨i + 1, by omega, by go_num, ?_, HGr.out⟩
            have h5 := HST.out
            simp only [if_true] at h5
            rw [h5]
            exact HW.out
          case measure => simp [intOf]; omega
  · have i1 : ¬ (i : Int) < (t.stages.length : Int) := by omega
    have HQ : Hid (Txs wr w.heap.size (.slice to' ((((t.stages.zip s.done).take i).filter (fun p => !p.2 && hld t s p.1.guard)).map (fun p => p.1.name)).length tc') (readyP t s)) := by
      have h4 : Txs wr w2.heap.size (.slice to' ((((t.stages.zip s.done).take i).filter (fun p => !p.2 && hld t s p.1.guard)).map (fun p => p.1.name)).length tc') (readyP t s) := by
        have := HT.out
        rw [List.take_of_length_le (by rw [List.length_zip]; omega)] at this ⊢
        exact this
      exact ownsRow_low h4 K2.out.size
    generalize ((((t.stages.zip s.done).take i).filter (fun p => !p.2 && hld t s p.1.guard)).map (fun p => p.1.name)).length = tl at *
    clear hB1 hB2
    go_wp2_with fail
    go_ret
    exact ⟨_, rfl, HQ.out, K2.out.trans HKr.out⟩

end Go.Proofs.YtnddpalngjmhnaaDoor
