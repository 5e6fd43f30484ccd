/-
  The document's Write.
-/
import Derived.Test.YtahbfffhkpojmaaDoorTR3
namespace Go.Proofs.YtahbfffhkpojmaaDoor
open Go.RowKit

theorem joins_to (a b c : List UInt8) (h : a ++ b = c) (hl : c.length ≤ 140737488355328) : ∀ W, (Op.stringOp .add ⟨a.toArray⟩ ⟨b.toArray⟩).run Tryd.prog W = .ok (.string ⟨c.toArray⟩) W := by
  subst h
  exact text_plus a b (by rw [List.length_append] at hl; exact hl)
/-- The texts between, as letters. -/
theorem steps_attr (pre : List UInt8) (x : At) (hl : (pre ++ semi (pA x)).length ≤ 140737488355328) : ∃ y1 y2 y3 y4 y5 y6 y7 y8 : List UInt8, Hid (y8 = pre ++ semi (pA x)) ∧
    (∀ W, (Op.stringOp .add ⟨pre.toArray⟩ ⟨#[59, 32, 97, 116, 116, 114, 32]⟩).run Tryd.prog W = .ok (.string ⟨y1.toArray⟩) W) ∧ (∀ W, (Op.stringOp .add ⟨y1.toArray⟩ ⟨x.name.toArray⟩).run Tryd.prog W = .ok (.string ⟨y2.toArray⟩) W) ∧
    (∀ W, (Op.stringOp .add ⟨y2.toArray⟩ ⟨#[32]⟩).run Tryd.prog W = .ok (.string ⟨y3.toArray⟩) W) ∧ (∀ W, (Op.stringOp .add ⟨y3.toArray⟩ ⟨(Lib.itoa x.start).toArray⟩).run Tryd.prog W = .ok (.string ⟨y4.toArray⟩) W) ∧
    (∀ W, (Op.stringOp .add ⟨y4.toArray⟩ ⟨#[32]⟩).run Tryd.prog W = .ok (.string ⟨y5.toArray⟩) W) ∧ (∀ W, (Op.stringOp .add ⟨y5.toArray⟩ ⟨(Lib.itoa x.lo).toArray⟩).run Tryd.prog W = .ok (.string ⟨y6.toArray⟩) W) ∧
    (∀ W, (Op.stringOp .add ⟨y6.toArray⟩ ⟨#[32]⟩).run Tryd.prog W = .ok (.string ⟨y7.toArray⟩) W) ∧ (∀ W, (Op.stringOp .add ⟨y7.toArray⟩ ⟨(Lib.itoa x.hi).toArray⟩).run Tryd.prog W = .ok (.string ⟨y8.toArray⟩) W) := by
  have e : pre ++ [59, 32, 97, 116, 116, 114, 32] ++ x.name ++ [32] ++ Lib.itoa x.start ++ [32] ++ Lib.itoa x.lo ++ [32] ++ Lib.itoa x.hi = pre ++ semi (pA x) := by simp [semi, pA]
  have hl2 := hl
  rw [← e] at hl2
  simp only [List.length_append] at hl2
  refine ⟨_, _, _, _, _, _, _, _, e, joins_to _ _ _ rfl ?_, joins_to _ _ _ rfl ?_, joins_to _ _ _ rfl ?_, joins_to _ _ _ rfl ?_, joins_to _ _ _ rfl ?_, joins_to _ _ _ rfl ?_, joins_to _ _ _ rfl ?_, joins_to _ _ _ rfl ?_⟩
  all_goals
    simp only [List.length_append]
    omega
theorem steps_rule (pre c : List UInt8) (x : Ru) (hl : (pre ++ (c ++ x.name ++ [32] ++ x.guard)).length ≤ 140737488355328) : ∃ y1 y2 y3 y4 : List UInt8, Hid (y4 = pre ++ (c ++ x.name ++ [32] ++ x.guard)) ∧
    (∀ W, (Op.stringOp .add ⟨pre.toArray⟩ ⟨c.toArray⟩).run Tryd.prog W = .ok (.string ⟨y1.toArray⟩) W) ∧ (∀ W, (Op.stringOp .add ⟨y1.toArray⟩ ⟨x.name.toArray⟩).run Tryd.prog W = .ok (.string ⟨y2.toArray⟩) W) ∧
    (∀ W, (Op.stringOp .add ⟨y2.toArray⟩ ⟨#[32]⟩).run Tryd.prog W = .ok (.string ⟨y3.toArray⟩) W) ∧ (∀ W, (Op.stringOp .add ⟨y3.toArray⟩ ⟨x.guard.toArray⟩).run Tryd.prog W = .ok (.string ⟨y4.toArray⟩) W) := by
  have e : pre ++ c ++ x.name ++ [32] ++ x.guard = pre ++ (c ++ x.name ++ [32] ++ x.guard) := by simp
  have hl2 := hl
  rw [← e] at hl2
  simp only [List.length_append] at hl2
  refine ⟨_, _, _, _, e, joins_to _ _ _ rfl ?_, joins_to _ _ _ rfl ?_, joins_to _ _ _ rfl ?_, joins_to _ _ _ rfl ?_⟩
  all_goals
    simp only [List.length_append]
    omega
theorem len_take {α : Type} (f : α → List UInt8) (pre : List UInt8) (l : List α) (i N : Nat) (h : (pre ++ l.flatMap f).length ≤ N) : (pre ++ (l.take i).flatMap f).length ≤ N := by
  have h2 : pre ++ (l.take i).flatMap f ++ (l.drop i).flatMap f = pre ++ l.flatMap f := by rw [List.append_assoc, ← List.flatMap_append, List.take_append_drop]
  rw [← h2, List.length_append] at h
  omega

set_option maxRecDepth 100000 in
set_option maxHeartbeats 8000000 in
theorem rwrite_any {w : World} {v : Value} {t : Ty} (h : TyV w v t) (hf : Tfit t) (hl : (write t).length ≤ 140737488355328) :
    Calls Tryd.prog 17 #[v] w fun e w' => e = .returned (.string ⟨(write t).toArray⟩) ∧ Kept (fun _ => True) w w' := by
  obtain ⟨va, vs, vm, rfl, ha, hs, hk⟩ := h
  obtain ⟨ao, ac, rfl, la⟩ := ha.form
  obtain ⟨so, sc, rfl, ls⟩ := hs.form
  obtain ⟨mo, mc, rfl, lm⟩ := hk.form
  have HF : Hid (Tfit t) := hf
  have hwl : pT t.name ++ t.attrs.flatMap (fun a => semi (pA a)) ++ t.stages.flatMap (fun a => semi (pS a)) ++ t.marks.flatMap (fun a => semi (pM a)) = write t := by simp [write]
  have hl2 := congrArg List.length hwl
  have HWL : Hid _ := hwl
  have HL3 : Hid ((pT t.name ++ t.attrs.flatMap (fun a => semi (pA a)) ++ t.stages.flatMap (fun a => semi (pS a)) ++ t.marks.flatMap (fun a => semi (pM a))).length ≤ 140737488355328) := by show _ ≤ _; rw [hl2]; exact hl
  simp only [List.length_append] at hl2
  have HL1 : Hid ((pT t.name ++ t.attrs.flatMap (fun a => semi (pA a))).length ≤ 140737488355328) := by show _ ≤ _; rw [List.length_append]; omega
  have HL2 : Hid ((pT t.name ++ t.attrs.flatMap (fun a => semi (pA a)) ++ t.stages.flatMap (fun a => semi (pS a))).length ≤ 140737488355328) := by show _ ≤ _; rw [List.length_append, List.length_append]; omega
  have k0 : Kept (fun _ => True) w (w.alloc (.cells #[.string ⟨t.name.toArray⟩, .slice ao t.attrs.length ac, .slice so t.stages.length sc, .slice mo t.marks.length mc] 26)) := (Kept.refl _ _).alloc _
  have hX := heap_alloc_new w (.cells #[.string ⟨t.name.toArray⟩, .slice ao t.attrs.length ac, .slice so t.stages.length sc, .slice mo t.marks.length mc] 26)
  replace ha := ha.all k0
  replace hs := hs.all k0
  replace hk := hk.all k0
  obtain ⟨⟨z0, z1, z2, z3⟩, _⟩ := four_cell hX
  obtain ⟨y0, hy0, j0⟩ := text_joins [116, 121, 112, 101, 32] t.name (by have := HL1.out; simp only [pT, List.length_append] at this; simp only [List.length_cons, List.length_nil] at this ⊢; omega)
  have HY0 : Hid (y0 = pT t.name) := hy0
  clear hwl hl2 hl hf hy0
  generalize write t = WT at *
  go_enter Tryd.func17, Tryd.ntmps17
  go_wp2_with fail
  generalize w.alloc (.cells #[.string ⟨t.name.toArray⟩, .slice ao t.attrs.length ac, .slice so t.stages.length sc, .slice mo t.marks.length mc] 26) = w1 at *
  obtain ⟨B, hB⟩ : ∃ B, B = w.heap.size := ⟨_, rfl⟩
  rw [← hB] at hX ⊢
  have K0 : Hid (Kept (fun _ => True) w w1) := k0
  have HA : Hid (Av w1 (.slice ao t.attrs.length ac) t.attrs) := ha
  have HS : Hid (Rv w1 (.slice so t.stages.length sc) t.stages) := hs
  have HM : Hid (Rv w1 (.slice mo t.marks.length mc) t.marks) := hk
  have HX : Hid (w1.heap[B]? = some (.cells #[.string ⟨t.name.toArray⟩, .slice ao t.attrs.length ac, .slice so t.stages.length sc, .slice mo t.marks.length mc] 26 (0, 0))) := hX
  clear hB ha hs hk hX k0 z0 z1 z2 z3
  go_loopw [3, 4, 5] (fun t3 t4 _ wr => ∃ (i : Nat) (tx : List UInt8), i ≤ t.attrs.length ∧ t4 = .int .i64 i ∧ t3 = .string ⟨tx.toArray⟩ ∧ tx = pT t.name ++ (t.attrs.take i).flatMap (fun a => semi (pA a)) ∧ Kept (fun _ => True) w1 wr) (fun _ t4 _ _ => t.attrs.length - (intOf t4).toNat)
  case atStart => exact ⟨0, y0, Nat.zero_le _, rfl, rfl, by rw [HY0.out]; simp, Kept.refl _ _⟩
  case round =>
  obtain ⟨i, tx, hi, rfl, rfl, htx, hk⟩ := hrel
  have HTX : Hid (tx = pT t.name ++ (t.attrs.take i).flatMap (fun a => semi (pA a))) := htx
  have HKr : Hid (Kept (fun _ => True) w1 wr) := hk
  have hX2 := (hk.block B (lt_of_block HX.out) trivial).trans HX.out
  clear htx hk
  by_cases hlt : i < t.attrs.length
  · obtain ⟨b, off, rfl, hb, q0, q1, q2, q3⟩ := (HA.out.all HKr.out).at i hlt
    obtain ⟨⟨z0, z1, z2, z3⟩, _⟩ := four_cell hX2
    have HSt : Hid (tx ++ semi (pA t.attrs[i]) = pT t.name ++ (t.attrs.take (i + 1)).flatMap (fun a => semi (pA a))) := by show _ = _; rw [HTX.out, flat_take_succ _ _ _ hlt, List.append_assoc]
    obtain ⟨f1, f2, f3⟩ := HF.out _ (List.getElem_mem hlt)
    obtain ⟨y1, y2, y3, y4, y5, y6, y7, y8, hy8, j1, j2, j3, j4, j5, j6, j7, j8⟩ := steps_attr tx t.attrs[i] (by rw [HSt.out]; exact len_take _ _ _ _ _ HL1.out)
    have HY8 : Hid (y8 = pT t.name ++ (t.attrs.take (i + 1)).flatMap (fun a => semi (pA a))) := by show _ = _; rw [hy8.out, HSt.out]
    have i1 : (i : Int) < (t.attrs.length : Int) := by omega
    have i0 : (0 : Int) ≤ (i : Int) := by omega
    clear hb hX2 hy8 HSt
    generalize t.attrs[i] = x at *
    obtain ⟨xn, xs, xl, xh⟩ := x
    simp only at q0 q1 q2 q3 j2 j4 j6 j8 f1 f2 f3
    have KA : Hid (∀ o : Obj, Kept (fun _ => True) wr (wr.alloc o)) := fun o => (Kept.refl _ _).alloc o
    have hG := heap_alloc_new wr (.cells #[.string ⟨xn.toArray⟩, .int .i64 xs, .int .i64 xl, .int .i64 xh] 50)
    obtain ⟨⟨g0, g1, g2, g3⟩, _⟩ := four_cell hG
    have G0 : Hid _ := g0
    have G1 : Hid _ := g1
    have G2 : Hid _ := g2
    have G3 : Hid _ := g3
    clear hG g0 g1 g2 g3
    go_wp2_with fail
    have g0 := G0.out
    have g1 := G1.out
    have g2 := G2.out
    have g3 := G3.out
    go_quiet ((go_at_call 32; exact Calls.quiet_of_same (digits_loop _ (by assumption))))
    go_wp2_with fail
    go_roundw
    case rel => exact ⟨i + 1, y8, by omega, by go_num, rfl, HY8.out, HKr.out.trans ((KA.out _).drewN _)⟩
    case measure => simp [intOf]; omega
  · have i1 : ¬ (i : Int) < (t.attrs.length : Int) := by omega
    have HT2 : Hid (tx = pT t.name ++ t.attrs.flatMap (fun a => semi (pA a))) := by show _ = _; rw [HTX.out, List.take_of_length_le (by omega)]
    obtain ⟨⟨z0, z1, z2, z3⟩, _⟩ := four_cell hX2
    clear hX2 HTX hlt
    go_wp2_with fail
    go_loopw [3, 6] (fun t3 ti wr => ∃ (i : Nat) (tx : List UInt8), i ≤ t.stages.length ∧ ti = .int .i64 i ∧ t3 = .string ⟨tx.toArray⟩ ∧ tx = pT t.name ++ t.attrs.flatMap (fun a => semi (pA a)) ++ (t.stages.take i).flatMap (fun a => semi (pS a)) ∧ Kept (fun _ => True) w1 wr) (fun _ ti _ => t.stages.length - (intOf ti).toNat)
    case atStart => exact ⟨0, _, Nat.zero_le _, rfl, rfl, by rw [HT2.out]; simp, HKr.out⟩
    case round =>
    obtain ⟨i, tx, hi, rfl, rfl, htx, hk⟩ := hrel
    have HTX : Hid (tx = pT t.name ++ t.attrs.flatMap (fun a => semi (pA a)) ++ (t.stages.take i).flatMap (fun a => semi (pS a))) := htx
    have HKr : Hid (Kept (fun _ => True) w1 wr) := hk
    have hX2 := (hk.block B (lt_of_block HX.out) trivial).trans HX.out
    obtain ⟨⟨z0, z1, z2, z3⟩, _⟩ := four_cell hX2
    clear htx hk hX2
    by_cases hlt : i < t.stages.length
    · obtain ⟨b, off, rfl, hb, q0, q1⟩ := (HS.out.all HKr.out).at i hlt
      have HSt : Hid (tx ++ semi (pS t.stages[i]) = pT t.name ++ t.attrs.flatMap (fun a => semi (pA a)) ++ (t.stages.take (i + 1)).flatMap (fun a => semi (pS a))) := by show _ = _; rw [HTX.out, flat_take_succ _ _ _ hlt, List.append_assoc]
      obtain ⟨y1, y2, y3, y4, hy4, j1, j2, j3, j4⟩ := steps_rule tx [59, 32, 115, 116, 97, 103, 101, 32] t.stages[i] (by rw [semi_stage, HSt.out]; exact len_take _ _ _ _ _ HL2.out)
      have HY4 : Hid (y4 = pT t.name ++ t.attrs.flatMap (fun a => semi (pA a)) ++ (t.stages.take (i + 1)).flatMap (fun a => semi (pS a))) := by show _ = _; rw [hy4.out, semi_stage, HSt.out]
      have i1 : (i : Int) < (t.stages.length : Int) := by omega
      have i0 : (0 : Int) ≤ (i : Int) := by omega
      clear hb hy4 HSt
      generalize t.stages[i] = x at *
      obtain ⟨xn, xg⟩ := x
      simp only at q0 q1 j2 j4
      go_wp2_with fail
      go_quiet (fail)
      go_wp2_with fail
      go_roundw
      case rel => exact ⟨i + 1, y4, by omega, by go_num, rfl, HY4.out, HKr.out.drewN _⟩
      case measure => simp [intOf]; omega
    · have i1 : ¬ (i : Int) < (t.stages.length : Int) := by omega
      have HT2 : Hid (tx = pT t.name ++ t.attrs.flatMap (fun a => semi (pA a)) ++ t.stages.flatMap (fun a => semi (pS a))) := by show _ = _; rw [HTX.out, List.take_of_length_le (by omega)]
      clear HTX hlt
      go_wp2_with fail
      go_loopw [3, 7] (fun t3 ti wr => ∃ (i : Nat) (tx : List UInt8), i ≤ t.marks.length ∧ ti = .int .i64 i ∧ t3 = .string ⟨tx.toArray⟩ ∧ tx = pT t.name ++ t.attrs.flatMap (fun a => semi (pA a)) ++ t.stages.flatMap (fun a => semi (pS a)) ++ (t.marks.take i).flatMap (fun a => semi (pM a)) ∧ Kept (fun _ => True) w1 wr) (fun _ ti _ => t.marks.length - (intOf ti).toNat)
      case atStart => exact ⟨0, _, Nat.zero_le _, rfl, rfl, by rw [HT2.out]; simp, HKr.out⟩
      case round =>
      obtain ⟨i, tx, hi, rfl, rfl, htx, hk⟩ := hrel
      have HTX : Hid (tx = pT t.name ++ t.attrs.flatMap (fun a => semi (pA a)) ++ t.stages.flatMap (fun a => semi (pS a)) ++ (t.marks.take i).flatMap (fun a => semi (pM a))) := htx
      have HKr : Hid (Kept (fun _ => True) w1 wr) := hk
      have hX2 := (hk.block B (lt_of_block HX.out) trivial).trans HX.out
      obtain ⟨⟨z0, z1, z2, z3⟩, _⟩ := four_cell hX2
      clear htx hk hX2
      by_cases hlt : i < t.marks.length
      · obtain ⟨b, off, rfl, hb, q0, q1⟩ := (HM.out.all HKr.out).at i hlt
        have HSt : Hid (tx ++ semi (pM t.marks[i]) = pT t.name ++ t.attrs.flatMap (fun a => semi (pA a)) ++ t.stages.flatMap (fun a => semi (pS a)) ++ (t.marks.take (i + 1)).flatMap (fun a => semi (pM a))) := by show _ = _; rw [HTX.out, flat_take_succ _ _ _ hlt, List.append_assoc]
        obtain ⟨y1, y2, y3, y4, hy4, j1, j2, j3, j4⟩ := steps_rule tx [59, 32, 109, 97, 114, 107, 32] t.marks[i] (by rw [semi_mark, HSt.out]; exact len_take _ _ _ _ _ HL3.out)
        have HY4 : Hid (y4 = pT t.name ++ t.attrs.flatMap (fun a => semi (pA a)) ++ t.stages.flatMap (fun a => semi (pS a)) ++ (t.marks.take (i + 1)).flatMap (fun a => semi (pM a))) := by show _ = _; rw [hy4.out, semi_mark, HSt.out]
        have i1 : (i : Int) < (t.marks.length : Int) := by omega
        have i0 : (0 : Int) ≤ (i : Int) := by omega
        clear hb hy4 HSt
        generalize t.marks[i] = x at *
        obtain ⟨xn, xg⟩ := x
        simp only at q0 q1 j2 j4
        go_wp2_with fail
        go_quiet (fail)
        go_wp2_with fail
        go_roundw
        case rel => exact ⟨i + 1, y4, by omega, by go_num, rfl, HY4.out, HKr.out.drewN _⟩
        case measure => simp [intOf]; omega
      · have i1 : ¬ (i : Int) < (t.marks.length : Int) := by omega
        have HT2 : Hid (tx = pT t.name ++ t.attrs.flatMap (fun a => semi (pA a)) ++ t.stages.flatMap (fun a => semi (pS a)) ++ t.marks.flatMap (fun a => semi (pM a))) := by show _ = _; rw [HTX.out, List.take_of_length_le (by omega)]
        clear HTX hlt
        go_wp2_with fail
        go_ret
        refine ⟨?_, K0.out.trans HKr.out⟩
        rw [← HWL.out, ← HT2.out]
        rfl

end Go.Proofs.YtahbfffhkpojmaaDoor
