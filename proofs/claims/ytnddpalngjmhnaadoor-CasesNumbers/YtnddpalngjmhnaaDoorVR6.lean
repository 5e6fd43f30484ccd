/-
  The document's Text.
-/
import Derived.Test.YtnddpalngjmhnaaDoorV11
import Derived.Test.YtnddpalngjmhnaaDoorTR3
namespace Go.Proofs.YtnddpalngjmhnaaDoor
open Go.RowKit

theorem join_to (a b c : List UInt8) (h : a ++ b = c) (hl : c.length ≤ 140737488355328) : ∀ W, (Op.stringOp .add ⟨a.toArray⟩ ⟨b.toArray⟩).run Tryd.prog W = .ok (.string ⟨c.toArray⟩) W := by
  subst h
  exact text_plus a b (by rw [List.length_append] at hl; exact hl)
theorem steps_val (pre : List UInt8) (x : At) (n : Int) (hl : (pre ++ tA (x, n)).length ≤ 1000000) : ∃ y1 y2 y3 y4 : List UInt8, Hid (y4 = pre ++ tA (x, n)) ∧
    (∀ W, (Op.stringOp .add ⟨pre.toArray⟩ ⟨#[32]⟩).run Tryd.prog W = .ok (.string ⟨y1.toArray⟩) W) ∧ (∀ W, (Op.stringOp .add ⟨y1.toArray⟩ ⟨x.name.toArray⟩).run Tryd.prog W = .ok (.string ⟨y2.toArray⟩) W) ∧
    (∀ W, (Op.stringOp .add ⟨y2.toArray⟩ ⟨#[61]⟩).run Tryd.prog W = .ok (.string ⟨y3.toArray⟩) W) ∧ (∀ W, (Op.stringOp .add ⟨y3.toArray⟩ ⟨(Lib.itoa n).toArray⟩).run Tryd.prog W = .ok (.string ⟨y4.toArray⟩) W) := by
  have e : pre ++ [32] ++ x.name ++ [61] ++ Lib.itoa n = pre ++ tA (x, n) := by simp [tA]
  have hl2 := hl
  rw [← e] at hl2
  simp only [List.length_append] at hl2
  refine ⟨_, _, _, _, e, join_to _ _ _ rfl ?_, join_to _ _ _ rfl ?_, join_to _ _ _ rfl ?_, join_to _ _ _ rfl ?_⟩
  all_goals
    simp only [List.length_append]
    omega
theorem steps_name (pre c x : List UInt8) (hl : (pre ++ (c ++ x)).length ≤ 1000000) : ∃ y1 y2 : List UInt8, Hid (y2 = pre ++ (c ++ x)) ∧
    (∀ W, (Op.stringOp .add ⟨pre.toArray⟩ ⟨c.toArray⟩).run Tryd.prog W = .ok (.string ⟨y1.toArray⟩) W) ∧ (∀ W, (Op.stringOp .add ⟨y1.toArray⟩ ⟨x.toArray⟩).run Tryd.prog W = .ok (.string ⟨y2.toArray⟩) W) := by
  have e : pre ++ c ++ x = pre ++ (c ++ x) := by simp
  have hl2 := hl
  rw [← e] at hl2
  simp only [List.length_append] at hl2
  refine ⟨_, _, e, join_to _ _ _ rfl ?_, join_to _ _ _ rfl ?_⟩
  all_goals
    simp only [List.length_append]
    omega

set_option maxRecDepth 100000 in
set_option maxHeartbeats 8000000 in
theorem rtext_any {w : World} {tv sv : Value} {t : Ty} {s : Sa} (ht : TyV w tv t) (hs : StV w sv s) (g : Good t) (f : Fit t s) :
    Calls Tryd.prog 25 #[tv, sv] w fun e w' => e = .returned (.string ⟨(textP t s).toArray⟩) ∧ Kept (fun _ => True) w w' := by
  have hl := text_short g f
  obtain ⟨ta, ts, tm, rfl, ha, hss, hkk⟩ := ht
  obtain ⟨ao, ac, rfl, la⟩ := ha.form
  obtain ⟨so, sc, rfl, ls⟩ := hss.form
  obtain ⟨mo, mc, rfl, lm⟩ := hkk.form
  obtain ⟨va, vd, vg, rfl, h1, h2, h3⟩ := hs
  obtain ⟨vo, vc, rfl, -, -⟩ := h1.ints
  obtain ⟨eo, ec, rfl, -, -⟩ := h2.bools
  obtain ⟨go, gc, rfl, -, -⟩ := h3.bools
  obtain ⟨x1, x2⟩ := alloc_two w (.cells #[.string ⟨t.name.toArray⟩, .slice ao t.attrs.length ac, .slice so t.stages.length sc, .slice mo t.marks.length mc] 25) (.cells #[.string ⟨s.type.toArray⟩, .slice vo s.vals.length vc, .slice eo s.done.length ec, .slice go s.got.length gc] 31)
  have hk0 : Kept (fun _ => True) w ((w.alloc (.cells #[.string ⟨t.name.toArray⟩, .slice ao t.attrs.length ac, .slice so t.stages.length sc, .slice mo t.marks.length mc] 25)).alloc (.cells #[.string ⟨s.type.toArray⟩, .slice vo s.vals.length vc, .slice eo s.done.length ec, .slice go s.got.length gc] 31)) := ((Kept.refl _ _).alloc _).alloc _
  have HA : Hid (Av _ (.slice ao t.attrs.length ac) t.attrs) := ha.all hk0
  have HS : Hid (Rv _ (.slice so t.stages.length sc) t.stages) := hss.all hk0
  have HM : Hid (Rv _ (.slice mo t.marks.length mc) t.marks) := hkk.all hk0
  have HV : Hid (Cv _ (.slice vo s.vals.length vc) (iv s.vals)) := h1.all hk0
  have HE : Hid (Cv _ (.slice eo s.done.length ec) (bv s.done)) := h2.all hk0
  have HG : Hid (Cv _ (.slice go s.got.length gc) (bv s.got)) := h3.all hk0
  have K0 : Hid _ := hk0
  have X1 : Hid _ := x1
  have X2 : Hid _ := x2
  have HF : Hid (Fit t s) := f
  have HGd : Hid (Good t) := g
  have hna := g.na
  have hns := g.ns
  have hnm := g.nm
  have HL3 : Hid ((t.name ++ (t.attrs.zip s.vals).flatMap tA ++ (t.stages.zip s.done).flatMap tS ++ (t.marks.zip s.got).flatMap tM).length ≤ 1000000) := hl
  have HL2 : Hid ((t.name ++ (t.attrs.zip s.vals).flatMap tA ++ (t.stages.zip s.done).flatMap tS).length ≤ 1000000) := by
    have := HL3.out
    show _ ≤ _
    rw [List.length_append] at this
    omega
  have HL1 : Hid ((t.name ++ (t.attrs.zip s.vals).flatMap tA).length ≤ 1000000) := by
    have := HL2.out
    show _ ≤ _
    rw [List.length_append] at this
    omega
  obtain ⟨WT, hWT⟩ : ∃ WT, WT = textP t s := ⟨_, rfl⟩
  have HWT : Hid (WT = t.name ++ (t.attrs.zip s.vals).flatMap tA ++ (t.stages.zip s.done).flatMap tS ++ (t.marks.zip s.got).flatMap tM) := hWT
  rw [← hWT]
  clear ha hss hkk h1 h2 h3 hk0 x1 x2 f g hl hWT
  go_enter Tryd.func25, Tryd.ntmps25
  go_upto_region 1 with fail
  generalize (w.alloc (.cells #[.string ⟨t.name.toArray⟩, .slice ao t.attrs.length ac, .slice so t.stages.length sc, .slice mo t.marks.length mc] 25)).alloc (.cells #[.string ⟨s.type.toArray⟩, .slice vo s.vals.length vc, .slice eo s.done.length ec, .slice go s.got.length gc] 31) = w1 at *
  generalize w.heap.size = B at *
  obtain ⟨⟨y0, y1, y2, y3⟩, _⟩ := four_cell X1.out
  go_wp2_with fail
  clear y0 y1 y2 y3
  go_loopw [5, 6] (fun t5 ti wr => ∃ (i : Nat) (tx : List UInt8), i ≤ t.attrs.length ∧ ti = .int .i64 i ∧ t5 = .string ⟨tx.toArray⟩ ∧ tx = t.name ++ ((t.attrs.zip s.vals).take i).flatMap tA ∧ Kept (fun _ => True) w1 wr) (fun _ ti _ => t.attrs.length - (intOf ti).toNat)
  case atStart => exact ⟨0, _, Nat.zero_le _, rfl, rfl, by simp, Kept.refl _ _⟩
  case round =>
  obtain ⟨i, tx, hi, rfl, rfl, htx, hk⟩ := hrel
  have HTX : Hid (tx = t.name ++ ((t.attrs.zip s.vals).take i).flatMap tA) := htx
  have HKr : Hid (Kept (fun _ => True) w1 wr) := hk
  have hB1 := (hk.block _ (lt_of_block X1.out) trivial).trans X1.out
  have hB2 := (hk.block _ (lt_of_block X2.out) trivial).trans X2.out
  obtain ⟨⟨y0, y1, y2, y3⟩, _⟩ := four_cell hB1
  obtain ⟨⟨z0, z1, z2, z3⟩, _⟩ := four_cell hB2
  clear htx hk hB1 hB2
  by_cases hlt : i < t.attrs.length
  · have hv : i < s.vals.length := by rw [HF.out.sz.vals]; exact hlt
    obtain ⟨b, off, rfl, hb, q0, q1, q2, q3⟩ := (HA.out.all HKr.out).at i hlt
    obtain ⟨b2, off2, rfl, hb2, c0⟩ := (HV.out.all HKr.out).intAt i hv
    obtain ⟨hz1, hz2⟩ := zip_at hlt hv
    have HFin : Hid (t.name ++ ((t.attrs.zip s.vals).take (i + 1)).flatMap tA = tx ++ tA (t.attrs[i], s.vals[i])) := by
      show _ = _
      rw [flat_take_succ _ _ _ hz1, hz2, HTX.out, List.append_assoc]
    have hlen := flat_le tA t.name (t.attrs.zip s.vals) (i + 1) _ HL1.out
    rw [HFin.out] at hlen
    have hbd : F64 s.vals[i] := by
      have h1 := HF.out.within i hlt
      have h2 := HGd.out.ranges t.attrs[i] (List.getElem_mem hlt)
      simp only [List.getD_eq_getElem?_getD, hlt, hv, List.getElem?_eq_getElem, Option.getD_some, wthn, Bool.and_eq_true, decide_eq_true_eq] at h1
      exact ⟨by omega, by omega⟩
    obtain ⟨s1, s2, s3, s4, hs4, j1, j2, j3, j4⟩ := steps_val tx t.attrs[i] s.vals[i] hlen
    have HY : Hid (s4 = t.name ++ ((t.attrs.zip s.vals).take (i + 1)).flatMap tA) := by show _ = _; rw [HFin.out]; exact hs4.out
    have i1 : (i : Int) < (t.attrs.length : Int) := by omega
    have i2 : (i : Int) < (s.vals.length : Int) := by omega
    have i0 : (0 : Int) ≤ (i : Int) := by omega
    have hvl : s.vals.length ≤ 6 := by rw [HF.out.sz.vals]; omega
    clear hz1 hz2 hb hb2 hlen HFin hs4
    generalize t.attrs[i] = x at *
    generalize s.vals[i] = n at *
    go_wp2_with fail
    go_quiet ((go_at_call 49; exact Calls.quiet_of_same (digits_loop _ (by assumption))))
    go_wp2_with fail
    go_roundw
    case rel => exact ⟨i + 1, s4, by omega, by go_num, rfl, HY.out, HKr.out.drewN _⟩
    case measure => simp [intOf]; omega
  · have i1 : ¬ (i : Int) < (t.attrs.length : Int) := by omega
    have HT2 : Hid (tx = t.name ++ (t.attrs.zip s.vals).flatMap tA) := by show _ = _; rw [HTX.out, List.take_of_length_le (by simp; omega)]
    clear HTX hlt
    go_wp2_with fail
    clear y0 y1 y2 y3 z0 z1 z2 z3
    go_loopw [5, 7] (fun t5 ti wr => ∃ (i : Nat) (tx : List UInt8), i ≤ t.stages.length ∧ ti = .int .i64 i ∧ t5 = .string ⟨tx.toArray⟩ ∧ tx = t.name ++ (t.attrs.zip s.vals).flatMap tA ++ ((t.stages.zip s.done).take i).flatMap tS ∧ Kept (fun _ => True) w1 wr) (fun _ ti _ => t.stages.length - (intOf ti).toNat)
    case atStart => exact ⟨0, _, Nat.zero_le _, rfl, rfl, by rw [HT2.out]; simp, HKr.out⟩
    case round =>
    obtain ⟨i, tx, hi, rfl, rfl, htx, hk⟩ := hrel
    have HTX : Hid (tx = t.name ++ (t.attrs.zip s.vals).flatMap tA ++ ((t.stages.zip s.done).take i).flatMap tS) := htx
    have HKr : Hid (Kept (fun _ => True) w1 wr) := hk
    have hB1 := (hk.block _ (lt_of_block X1.out) trivial).trans X1.out
    have hB2 := (hk.block _ (lt_of_block X2.out) trivial).trans X2.out
    obtain ⟨⟨y0, y1, y2, y3⟩, _⟩ := four_cell hB1
    obtain ⟨⟨z0, z1, z2, z3⟩, _⟩ := four_cell hB2
    clear htx hk hB1 hB2
    by_cases hlt : i < t.stages.length
    · have hv : i < s.done.length := by rw [HF.out.sz.done]; exact hlt
      obtain ⟨b, off, rfl, hb, q0, q1⟩ := (HS.out.all HKr.out).at i hlt
      obtain ⟨b2, off2, rfl, hb2, c0⟩ := (HE.out.all HKr.out).boolAt i hv
      obtain ⟨hz1, hz2⟩ := zip_at hlt hv
      have HFin : Hid (t.name ++ (t.attrs.zip s.vals).flatMap tA ++ ((t.stages.zip s.done).take (i + 1)).flatMap tS = tx ++ tS (t.stages[i], s.done[i])) := by
        show _ = _
        rw [flat_take_succ _ _ _ hz1, hz2, HTX.out]
        simp
      have hlen := flat_le tS (t.name ++ (t.attrs.zip s.vals).flatMap tA) (t.stages.zip s.done) (i + 1) _ HL2.out
      rw [HFin.out] at hlen
      have i1 : (i : Int) < (t.stages.length : Int) := by omega
      have i2 : (i : Int) < (s.done.length : Int) := by omega
      have i0 : (0 : Int) ≤ (i : Int) := by omega
      have hvl : s.done.length ≤ 6 := by rw [HF.out.sz.done]; omega
      clear hz1 hz2 hb hb2
      generalize t.stages[i] = x at *
      generalize s.done[i] = n at *
      cases n with
      | false =>
        have HY : Hid (tx = t.name ++ (t.attrs.zip s.vals).flatMap tA ++ ((t.stages.zip s.done).take (i + 1)).flatMap tS) := by show _ = _; rw [HFin.out]; simp [tS]
        clear hlen HFin
        go_wp2_with fail
        go_roundw
        case rel => exact ⟨i + 1, tx, by omega, by go_num, rfl, HY.out, HKr.out⟩
        case measure => simp [intOf]; omega
      | true =>
        obtain ⟨s1, s2, hs2, j1, j2⟩ := steps_name tx [32, 43] x.name (by simpa [tS] using hlen)
        have HY : Hid (s2 = t.name ++ (t.attrs.zip s.vals).flatMap tA ++ ((t.stages.zip s.done).take (i + 1)).flatMap tS) := by show _ = _; rw [HFin.out, hs2.out]; simp [tS]
        clear hlen HFin hs2
        go_wp2_with fail
        go_roundw
        case rel => exact ⟨i + 1, s2, by omega, by go_num, rfl, HY.out, HKr.out⟩
        case measure => simp [intOf]; omega
    · have i1 : ¬ (i : Int) < (t.stages.length : Int) := by omega
      have HT3 : Hid (tx = t.name ++ (t.attrs.zip s.vals).flatMap tA ++ (t.stages.zip s.done).flatMap tS) := by show _ = _; rw [HTX.out, List.take_of_length_le (by simp; omega)]
      clear HTX hlt
      go_wp2_with fail
      clear y0 y1 y2 y3 z0 z1 z2 z3
      go_loopw [5, 8] (fun t5 ti wr => ∃ (i : Nat) (tx : List UInt8), i ≤ t.marks.length ∧ ti = .int .i64 i ∧ t5 = .string ⟨tx.toArray⟩ ∧ tx = t.name ++ (t.attrs.zip s.vals).flatMap tA ++ (t.stages.zip s.done).flatMap tS ++ ((t.marks.zip s.got).take i).flatMap tM ∧ Kept (fun _ => True) w1 wr) (fun _ ti _ => t.marks.length - (intOf ti).toNat)
      case atStart => exact ⟨0, _, Nat.zero_le _, rfl, rfl, by rw [HT3.out]; simp, HKr.out⟩
      case round =>
      obtain ⟨i, tx, hi, rfl, rfl, htx, hk⟩ := hrel
      have HTX : Hid (tx = t.name ++ (t.attrs.zip s.vals).flatMap tA ++ (t.stages.zip s.done).flatMap tS ++ ((t.marks.zip s.got).take i).flatMap tM) := htx
      have HKr : Hid (Kept (fun _ => True) w1 wr) := hk
      have hB1 := (hk.block _ (lt_of_block X1.out) trivial).trans X1.out
      have hB2 := (hk.block _ (lt_of_block X2.out) trivial).trans X2.out
      obtain ⟨⟨y0, y1, y2, y3⟩, _⟩ := four_cell hB1
      obtain ⟨⟨z0, z1, z2, z3⟩, _⟩ := four_cell hB2
      clear htx hk hB1 hB2
      by_cases hlt : i < t.marks.length
      · have hv : i < s.got.length := by rw [HF.out.sz.got]; exact hlt
        obtain ⟨b, off, rfl, hb, q0, q1⟩ := (HM.out.all HKr.out).at i hlt
        obtain ⟨b2, off2, rfl, hb2, c0⟩ := (HG.out.all HKr.out).boolAt i hv
        obtain ⟨hz1, hz2⟩ := zip_at hlt hv
        have HFin : Hid (t.name ++ (t.attrs.zip s.vals).flatMap tA ++ (t.stages.zip s.done).flatMap tS ++ ((t.marks.zip s.got).take (i + 1)).flatMap tM = tx ++ tM (t.marks[i], s.got[i])) := by
          show _ = _
          rw [flat_take_succ _ _ _ hz1, hz2, HTX.out]
          simp
        have hlen := flat_le tM (t.name ++ (t.attrs.zip s.vals).flatMap tA ++ (t.stages.zip s.done).flatMap tS) (t.marks.zip s.got) (i + 1) _ HL3.out
        rw [HFin.out] at hlen
        have i1 : (i : Int) < (t.marks.length : Int) := by omega
        have i2 : (i : Int) < (s.got.length : Int) := by omega
        have i0 : (0 : Int) ≤ (i : Int) := by omega
        have hvl : s.got.length ≤ 6 := by rw [HF.out.sz.got]; omega
        clear hz1 hz2 hb hb2
        generalize t.marks[i] = x at *
        generalize s.got[i] = n at *
        cases n with
        | false =>
          have HY : Hid (tx = t.name ++ (t.attrs.zip s.vals).flatMap tA ++ (t.stages.zip s.done).flatMap tS ++ ((t.marks.zip s.got).take (i + 1)).flatMap tM) := by show _ = _; rw [HFin.out]; simp [tM]
          clear hlen HFin
          go_wp2_with fail
          go_roundw
          case rel => exact ⟨i + 1, tx, by omega, by go_num, rfl, HY.out, HKr.out⟩
          case measure => simp [intOf]; omega
        | true =>
          obtain ⟨s1, s2, hs2, j1, j2⟩ := steps_name tx [32, 42] x.name (by simpa [tM] using hlen)
          have HY : Hid (s2 = t.name ++ (t.attrs.zip s.vals).flatMap tA ++ (t.stages.zip s.done).flatMap tS ++ ((t.marks.zip s.got).take (i + 1)).flatMap tM) := by show _ = _; rw [HFin.out, hs2.out]; simp [tM]
          clear hlen HFin hs2
          go_wp2_with fail
          go_roundw
          case rel => exact ⟨i + 1, s2, by omega, by go_num, rfl, HY.out, HKr.out⟩
          case measure => simp [intOf]; omega
      · have i1 : ¬ (i : Int) < (t.marks.length : Int) := by omega
        have HT4 : Hid (tx = WT) := by show _ = _; rw [HTX.out, HWT.out, List.take_of_length_le (by simp; omega)]
        clear HTX hlt
        go_wp2_with fail
        go_ret
        exact ⟨(show Ending.returned (.string ⟨tx.toArray⟩) = _ by rw [HT4.out]), K0.out.trans HKr.out⟩

end Go.Proofs.YtnddpalngjmhnaaDoor
