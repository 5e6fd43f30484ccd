/-
  The document's settle.
-/
import Derived.Test.YtnddpalngjmhnaaDoorVR1
import Derived.Test.YtnddpalngjmhnaaDoorVOrd
namespace Go.Proofs.YtnddpalngjmhnaaDoor
open Go.RowKit

set_option maxRecDepth 100000 in
set_option maxHeartbeats 8000000 in
theorem rsettle_any {w0 w : World} {tv va vd vg : Value} {t : Ty} {s : Sa} (ht : TyV w0 tv t) (k0 : Kept (· < w0.heap.size) w0 w) (h : So w w0.heap.size va vd vg s) (g : Good t) (f : Sized t s) :
    Calls Tryd.prog 32 #[tv, .agg #[.string ⟨s.type.toArray⟩, va, vd, vg]] w fun e w' => e = .returned (.agg #[.string ⟨s.type.toArray⟩, va, vd, vg]) ∧ So w' w0.heap.size va vd vg (settled t s) ∧ Kept (· < w0.heap.size) w w' := by
  have HTy : Hid (TyV w0 tv t) := ht
  obtain ⟨ta, ts, tm, rfl, ha, hss, hkk⟩ := ht
  obtain ⟨ao, ac, rfl, la⟩ := ha.form
  obtain ⟨so, sc, rfl, ls⟩ := hss.form
  obtain ⟨mo, mc, rfl, lm⟩ := hkk.form
  obtain ⟨vo, vc, rfl⟩ := own_shape_any h.vals
  obtain ⟨eo, ec, rfl⟩ := own_shape_any h.done
  obtain ⟨go, gc, rfl⟩ := own_shape_any h.got
  obtain ⟨N0, hN0⟩ : ∃ N0, N0 = w0.heap.size := ⟨_, rfl⟩
  rw [← hN0] at h k0 ⊢
  obtain ⟨x1, x2, x3⟩ := alloc_three w (.cells #[.string ⟨t.name.toArray⟩, .slice ao t.attrs.length ac, .slice so t.stages.length sc, .slice mo t.marks.length mc] 25) (.cells #[.string ⟨s.type.toArray⟩, .slice vo s.vals.length vc, .slice eo s.done.length ec, .slice go s.got.length gc] 31) (.cells #[.string ⟨#[]⟩, .slice none 0 0, .slice none 0 0, .slice none 0 0] 31)
  have hk1 : Kept (fun _ => True) w (((w.alloc (.cells #[.string ⟨t.name.toArray⟩, .slice ao t.attrs.length ac, .slice so t.stages.length sc, .slice mo t.marks.length mc] 25)).alloc (.cells #[.string ⟨s.type.toArray⟩, .slice vo s.vals.length vc, .slice eo s.done.length ec, .slice go s.got.length gc] 31)).alloc (.cells #[.string ⟨#[]⟩, .slice none 0 0, .slice none 0 0, .slice none 0 0] 31)) := (((Kept.refl _ _).alloc _).alloc _).alloc _
  have hlow : ∀ k, (Value.slice go s.got.length gc).ownBlock = some k → N0 ≤ k ∧ k < w.heap.size := h.got.lt
  have hge0 : Ge N0 _ _ (.slice vo s.vals.length vc) (.slice eo s.done.length ec) (.slice go s.got.length gc) s s := ⟨h.all hk1, Grows.refl s, Kept.refl _ _⟩
  obtain ⟨B, hB⟩ : ∃ B, B = w.heap.size := ⟨_, rfl⟩
  have hb1 : (Value.slice go s.got.length gc).ownBlock ≠ some B := fun e => by have := (hlow B e).2; omega
  have hb2 : (Value.slice go s.got.length gc).ownBlock ≠ some (B + 1) := fun e => by have := (hlow (B + 1) e).2; omega
  have hb3 : (Value.slice go s.got.length gc).ownBlock ≠ some (B + 1 + 1) := fun e => by have := (hlow (B + 1 + 1) e).2; omega
  have NV : Hid ((Value.slice vo s.vals.length vc).ownBlock ≠ some (B + 1 + 1)) := fun e => by have := (h.vals.lt _ e).2; omega
  have ND : Hid ((Value.slice eo s.done.length ec).ownBlock ≠ some (B + 1 + 1)) := fun e => by have := (h.done.lt _ e).2; omega
  rw [← hB] at x1 x2 x3
  have hm := g.nm
  have hml : s.got.length = t.marks.length := f.got
  have HFew : Hid (∀ s', Grows s s' → Few s') := fun s' hg => by
    have := g.na; have := g.ns; have := f.vals; have := f.done
    exact ⟨by rw [hg.vals]; omega, by rw [hg.done]; omega, by rw [hg.got]; omega⟩
  have HGd : Hid (Good t) := g
  have HB0 : Hid (B = w.heap.size) := hB
  have HBN : Hid (N0 ≤ B) := by show _ ≤ _; rw [hB, hN0]; exact k0.size
  have HTW : Hid (∀ W s', Ge N0 (((w.alloc (.cells #[.string ⟨t.name.toArray⟩, .slice ao t.attrs.length ac, .slice so t.stages.length sc, .slice mo t.marks.length mc] 25)).alloc (.cells #[.string ⟨s.type.toArray⟩, .slice vo s.vals.length vc, .slice eo s.done.length ec, .slice go s.got.length gc] 31)).alloc (.cells #[.string ⟨#[]⟩, .slice none 0 0, .slice none 0 0, .slice none 0 0] 31)) W (.slice vo s.vals.length vc) (.slice eo s.done.length ec) (.slice go s.got.length gc) s s' → TyV W (.agg #[.string ⟨t.name.toArray⟩, .slice ao t.attrs.length ac, .slice so t.stages.length sc, .slice mo t.marks.length mc]) t) := fun W s' hg => by
    refine HTy.out.low ?_
    rw [← hN0]
    exact (k0.trans (hk1.mono fun _ _ _ => trivial)).trans (hg.kept.mono fun i _ hi e => by have := (hlow i e).1; omega)
  have HEnd : Hid (∀ W s', Ge N0 (((w.alloc (.cells #[.string ⟨t.name.toArray⟩, .slice ao t.attrs.length ac, .slice so t.stages.length sc, .slice mo t.marks.length mc] 25)).alloc (.cells #[.string ⟨s.type.toArray⟩, .slice vo s.vals.length vc, .slice eo s.done.length ec, .slice go s.got.length gc] 31)).alloc (.cells #[.string ⟨#[]⟩, .slice none 0 0, .slice none 0 0, .slice none 0 0] 31)) W (.slice vo s.vals.length vc) (.slice eo s.done.length ec) (.slice go s.got.length gc) s s' → Kept (· < N0) w W) := fun W s' hg =>
    (hk1.mono fun _ _ _ => trivial).trans (hg.kept.mono fun i _ hi e => by have := (hlow i e).1; omega)
  have HML : Hid (s.got.length = t.marks.length) := hml
  obtain ⟨R, hR⟩ : ∃ R, R = settled t s := ⟨_, rfl⟩
  have HR : Hid (settled t s = R) := hR.symm
  rw [← hR]
  clear hR
  clear ha hss hkk k0 h hk1 g f hN0 HTy hB hml
  go_enter Tryd.func32, Tryd.ntmps32
  go_upto_region 1 with fail
  rw [← HB0.out]
  generalize ((w.alloc (.cells #[.string ⟨t.name.toArray⟩, .slice ao t.attrs.length ac, .slice so t.stages.length sc, .slice mo t.marks.length mc] 25)).alloc (.cells #[.string ⟨s.type.toArray⟩, .slice vo s.vals.length vc, .slice eo s.done.length ec, .slice go s.got.length gc] 31)).alloc (.cells #[.string ⟨#[]⟩, .slice none 0 0, .slice none 0 0, .slice none 0 0] 31) = w1 at *
  have HG0 : Hid (Ge N0 w1 w1 (.slice vo s.vals.length vc) (.slice eo s.done.length ec) (.slice go s.got.length gc) s s) := hge0
  have X1 : Hid (w1.heap[B]? = some (.cells #[.string ⟨t.name.toArray⟩, .slice ao t.attrs.length ac, .slice so t.stages.length sc, .slice mo t.marks.length mc] 25 (0, 0))) := x1
  have X2 : Hid (w1.heap[B + 1]? = some (.cells #[.string ⟨s.type.toArray⟩, .slice vo s.vals.length vc, .slice eo s.done.length ec, .slice go s.got.length gc] 31 (0, 0))) := x2
  have X3 : Hid (w1.heap[B + 1 + 1]? = some (.cells #[.string ⟨#[]⟩, .slice none 0 0, .slice none 0 0, .slice none 0 0] 31 (0, 0))) := x3
  have N1 : Hid _ := hb1
  have N3 : Hid _ := hb3
  have N2 : Hid _ := hb2
  clear hge0 x1 x2 x3 hb1 hb2 hb3 hlow
  go_wp2_with fail
  go_loopw [5, 6] (fun t4 _ wr => ∃ (b : Bool) (s' : Sa), t4 = .bool b ∧ Ge N0 w1 wr (.slice vo s.vals.length vc) (.slice eo s.done.length ec) (.slice go s.got.length gc) s s' ∧ (b = true → settled t s' = R) ∧ (b = false → s' = R)) (fun t4 _ wr => 2 * falses wr (.slice go s.got.length gc) + flag t4)
  case atStart => exact ⟨true, s, rfl, HG0.out, fun _ => HR.out, fun h => (by cases h)⟩
  case round =>
  obtain ⟨b, s0, rfl, hge, hb1, hb2⟩ := hrel
  have HGe : Hid (Ge N0 w1 wr (.slice vo s.vals.length vc) (.slice eo s.done.length ec) (.slice go s.got.length gc) s s0) := hge
  cases b with
  | false =>
    have HE : Hid (s0 = R) := hb2 rfl
    have hB2 := hge.block X2.out N2.out
    have hB3 := hge.block X3.out N3.out
    obtain ⟨⟨z0, z1, z2, z3⟩, _⟩ := four_cell hB2
    obtain ⟨⟨r0, r1, r2, r3⟩, _⟩ := four_cell hB3
    have HB3 : Hid _ := hB3
    clear hge hb1 hb2 hB2 hB3
    go_wp2_with fail
    have kz : Kept (fun i => i ≠ B + 1 + 1) wr ((((wr.setCell ⟨B + 1 + 1, 0, none⟩ (.string ⟨s.type.toArray⟩)).setCell ⟨B + 1 + 1, 1, none⟩ (.slice vo s.vals.length vc)).setCell ⟨B + 1 + 1, 2, none⟩ (.slice eo s.done.length ec)).setCell ⟨B + 1 + 1, 3, none⟩ (.slice go s.got.length gc)) := ((((Kept.refl _ wr).setCell (by simp) _).setCell (by simp) _).setCell (by simp) _).setCell (by simp) _
    have hso := HGe.out.so
    refine bodyPost_ret (results_state rfl _ _ rfl (set_cell (set_cell (set_cell (set_cell HB3.out 0 _) 1 _) 2 _) 3 _) rfl) rfl ⟨rfl, ?_, (HEnd.out _ _ HGe.out).trans (kz.mono fun i _ hi => by have := HBN.out; omega)⟩
    rw [← HE.out]
    exact ⟨own_keep hso.vals kz (fun k e q => NV.out (by rw [← q]; exact e)), own_keep hso.done kz (fun k e q => ND.out (by rw [← q]; exact e)), own_keep hso.got kz (fun k e q => N3.out (by rw [← q]; exact e)), hso.apart⟩
  | true =>
    have HE : Hid (settled t s0 = R) := hb1 rfl
    have HF0 : Hid (falses wr (.slice go s.got.length gc) = wanting s0) := falses_own hge.so.got (by rw [hge.grows.got])
    clear hge hb1 hb2
    go_wp2_with fail
    go_loopw [5, 6] (fun t4 ti wq => ∃ (b : Bool) (i : Nat) (s' : Sa), i ≤ t.marks.length ∧ ti = .int .i64 i ∧ t4 = .bool b ∧ Ge N0 w1 wq (.slice vo s.vals.length vc) (.slice eo s.done.length ec) (.slice go s.got.length gc) s s' ∧ rnd t 0 t.marks s0 = ((rnd t i (t.marks.drop i) s').1, b || (rnd t i (t.marks.drop i) s').2)) (fun _ ti _ => t.marks.length - (intOf ti).toNat)
    case atStart => exact ⟨false, 0, s0, Nat.zero_le _, rfl, rfl, HGe.out, by simp⟩
    case round =>
    obtain ⟨b, i, s', hi, rfl, rfl, hge, hrn⟩ := hrel
    have HRn : Hid (rnd t 0 t.marks s0 = ((rnd t i (t.marks.drop i) s').1, b || (rnd t i (t.marks.drop i) s').2)) := hrn
    have HGe2 : Hid (Ge N0 w1 wr (.slice vo s.vals.length vc) (.slice eo s.done.length ec) (.slice go s.got.length gc) s s') := hge
    clear hrn
    by_cases hlt : i < t.marks.length
    · have hgl : s'.got.length = s.got.length := hge.grows.got
      have hgi : i < s'.got.length := by rw [hgl, HML.out]; exact hlt
      have hgi2 : i < s.got.length := by rw [HML.out]; exact hlt
      have hT := HTW.out wr s' hge
      obtain ⟨_, _, tm, e4, _, _, hM⟩ := hT
      cases e4
      obtain ⟨b2, off, rfl, hb, q0, q1⟩ := hM.at i hlt
      have hso := hge.so.got
      rw [hgl] at hso
      obtain ⟨g, rfl⟩ : ∃ g, go = some ⟨g, 0, none⟩ := by
        obtain ⟨ao', cap', e, _, _, h0⟩ := own_form hso
        cases e
        exact h0 (by omega)
      have c0 := hso.cellAt i (by omega)
      rw [show (bv s'.got)[i]? = some (.bool s'.got[i]) by simp [bv, hgi]] at c0
      have f0 := hso.frozenAt i
      have hgb : g < wr.heap.size := (hso.lt g rfl).2
      have hB2 := hge.block X2.out N2.out
      have hB1 := hge.block X1.out N1.out
      obtain ⟨hr1, hr2, hr3⟩ := round_step HRn.out hlt hgi rfl
      have R1 : Hid _ := hr1
      have R2 : Hid _ := hr2
      have R3 : Hid _ := hr3
      have i1 : (i : Int) < (t.marks.length : Int) := by omega
      have i2 : (i : Int) < (s.got.length : Int) := by omega
      have i0 : (0 : Int) ≤ (i : Int) := by omega
      have HGL : Hid ((t.marks[i]).guard.length ≤ 10000) := by
        have := HGd.out.guards _ (List.mem_append.2 (.inr (List.getElem_mem hlt)))
        show _ ≤ _
        omega
      have hV3 : StV wr (.agg #[.string ⟨s.type.toArray⟩, .slice vo s.vals.length vc, .slice eo s.done.length ec, .slice (some ⟨g, 0, none⟩) s.got.length gc]) s' := by
        obtain ⟨p1, p2, p3⟩ := hge.so.view (HFew.out _ hge.grows)
        exact ⟨_, _, _, by rw [hge.grows.type], p1, p2, p3⟩
      have hTy3 := HTW.out _ s' hge
      have HCh : Hid (∀ W, Kept (fun _ => True) wr W → Calls Tryd.prog 39 #[.agg #[.string ⟨t.name.toArray⟩, .slice ao t.attrs.length ac, .slice so t.stages.length sc, .slice (some ⟨b2, off, none⟩) t.marks.length mc], .agg #[.string ⟨s.type.toArray⟩, .slice vo s.vals.length vc, .slice eo s.done.length ec, .slice (some ⟨g, 0, none⟩) s.got.length gc], .string ⟨(t.marks[i]).guard.toArray⟩] W fun e w' => e = .returned (.bool (hld t s' (t.marks[i]).guard)) ∧ Kept (fun _ => True) W w') :=
        fun W q => rholds_any (hTy3.all q) (hV3.all q) (HFew.out _ hge.grows) (by have := HGd.out.few; omega) (by have := HGL.out; omega)
      have HG3 : Hid _ := hge
      clear hge hM hr1 hr2 hr3 hV3 hTy3 hso
      generalize s'.got[i] = d at *
      generalize t.marks[i] = r at *
      obtain ⟨⟨y0, y1, y2, y3⟩, _⟩ := four_cell hB1
      obtain ⟨⟨z0, z1, z2, z3⟩, _⟩ := four_cell hB2
      cases d with
      | true =>
        have HRN : Hid _ := R1.out (by simp)
        clear HCh hB1 hB2
        go_wp2_with fail
        go_quiet (fail)
        go_wp2_with fail
        go_roundw
        case rel => exact ⟨b, i + 1, s', by omega, by go_num, rfl, HG3.out.all ((Kept.refl _ _).drewN _), HRN.out⟩
        case measure => simp [intOf]; omega
      | false =>
        have Y0 := fun W (q : Kept (fun _ => True) wr W) => (kept_cell q (lt_of_block hB1) trivial).trans y0
        have Y1 := fun W (q : Kept (fun _ => True) wr W) => (kept_cell q (lt_of_block hB1) trivial).trans y1
        have Y2 := fun W (q : Kept (fun _ => True) wr W) => (kept_cell q (lt_of_block hB1) trivial).trans y2
        have Y3 := fun W (q : Kept (fun _ => True) wr W) => (kept_cell q (lt_of_block hB1) trivial).trans y3
        have Z0 := fun W (q : Kept (fun _ => True) wr W) => (kept_cell q (lt_of_block hB2) trivial).trans z0
        have Z1 := fun W (q : Kept (fun _ => True) wr W) => (kept_cell q (lt_of_block hB2) trivial).trans z1
        have Z2 := fun W (q : Kept (fun _ => True) wr W) => (kept_cell q (lt_of_block hB2) trivial).trans z2
        have Z3 := fun W (q : Kept (fun _ => True) wr W) => (kept_cell q (lt_of_block hB2) trivial).trans z3
        have C0 := fun W (q : Kept (fun _ => True) wr W) => (kept_cell q hgb trivial).trans c0
        have QG := fun W (q : Kept (fun _ => True) wr W) => (kept_cell q hb trivial).trans q1
        have kd : Kept (fun _ => True) wr wr.drew := (Kept.refl _ _).drew
        go_upto_region 7 with fail
        clear y0 y1 y2 y3 z0 z1 z2 z3 hB1 hB2 c0 q0 q1 hgb hb
        go_region_held3 (fun W => Kept (fun _ => True) wr W) (assumption) (first
          | (go_at_call 39; refine Calls.mono (HCh.out _ (by assumption)) ?_; rintro e w4 ⟨rfl, k4⟩; have p4 : Kept (fun _ => True) wr w4 := Kept.trans (by assumption) k4; clear k4))
        all_goals
          have hge4 := HG3.out.all p4
          have hB4 := hge4.block X2.out N2.out
          have HG4 : Hid _ := hge4
          have hso4 := hge4.so.got
          rw [hgl] at hso4
          have f4 := hso4.frozenAt i
          have c4 := hso4.cellAt i (by omega)
          rw [show (bv s'.got)[i]? = some (.bool s'.got[i]) by simp [bv, hgi]] at c4
          clear HCh hge4 hso4 Y0 Y1 Y2 Y3 Z0 Z1 Z2 Z3 C0 QG kd p4
          obtain ⟨⟨z0, z1, z2, z3⟩, _⟩ := four_cell hB4
          generalize hq : hld t s' r.guard = q at *
          cases q with
          | false =>
            have HRN : Hid _ := R2.out (by simp) (by simp)
            clear hB4
            go_wp2_with fail
            go_roundw
            case rel => exact ⟨b, i + 1, s', by omega, by go_num, rfl, HG4.out, HRN.out⟩
            case measure => simp [intOf]; omega
          | true =>
            have HRN : Hid _ := R3.out (by simp) (by simp)
            have HG5 : Hid _ := HG4.out.mark hgl.symm i
            clear hB4
            generalize s'.got[i] = d2 at *
            go_wp2_with fail
            go_roundw
            case rel => exact ⟨true, i + 1, s'.mark i, by omega, by go_num, rfl, HG5.out, HRN.out⟩
            case measure => simp [intOf]; omega
    · have i1 : ¬ (i : Int) < (t.marks.length : Int) := by omega
      have hov := HRn.out
      rw [rnd_over (by omega)] at hov
      simp only [Bool.or_false] at hov
      obtain ⟨h1, h2, h3⟩ := round_again hov
      have HH : Hid _ := h2
      have HH3 : Hid _ := h3
      have HF1 : Hid (falses wr (.slice go s.got.length gc) = wanting s') := falses_own hge.so.got (by rw [hge.grows.got])
      have hB1 := hge.block X1.out N1.out
      obtain ⟨⟨y0, y1, y2, y3⟩, _⟩ := four_cell hB1
      clear hov h1 h2 h3 hge hB1
      go_wp2_with fail
      go_roundw
      case rel =>
        refine ⟨b, s', rfl, HGe2.out, fun hb => ?_, fun hb => ?_⟩
        · exact (HH.out hb).1.trans HE.out
        · obtain ⟨q1, q2⟩ := HH3.out hb
          rw [q1, ← q2]
          exact HE.out
      case measure =>
        rw [HF1.out, HF0.out]
        cases b with
        | true => have := (HH.out rfl).2; simp only [flag]; omega
        | false => have := (HH3.out rfl).1; rw [this]; simp only [flag]; omega

end Go.Proofs.YtnddpalngjmhnaaDoor
