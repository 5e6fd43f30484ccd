/-
  Write.
-/
import Derived.Test.YtahbfffhkpojmaaDoorT8
import Derived.Laws.Concat
namespace Go.Proofs.YtahbfffhkpojmaaDoor
open Go.RowKit

theorem text_plus (a b : List UInt8) (h : a.length + b.length ≤ 140737488355328) (W : World) : (Op.stringOp .add ⟨a.toArray⟩ ⟨b.toArray⟩).run Tryd.prog W = .ok (.string ⟨(a ++ b).toArray⟩) W := by
  rw [run_string_add_sum (P := Tryd.prog) W _ _ (by simp only [ByteArray.size, List.size_toArray]; omega), ByteArray.mk_append_mk]
theorem text_joins (a b : List UInt8) (h : a.length + b.length ≤ 140737488355328) : ∃ y : List UInt8, Hid (y = a ++ b) ∧ ∀ W, (Op.stringOp .add ⟨a.toArray⟩ ⟨b.toArray⟩).run Tryd.prog W = .ok (.string ⟨y.toArray⟩) W := ⟨_, rfl, text_plus a b h⟩

/-- While a text is written: what was there, the box, the builder. -/
structure Wt (w wr : World) (o : Obj) (l : List UInt8) : Prop where
  kept : Kept (fun _ => True) w wr
  box : wr.heap[w.heap.size]? = some o
  bu : Bu wr (w.heap.size + 1) (w.heap.size + 1) l
theorem Bu.lt {w : World} {B b : Nat} {l : List UInt8} (h : Bu w B b l) : b < w.heap.size := by
  rcases h with h | h
  · exact h.lt
  · exact h.lt
theorem Wt.all {w wr w' : World} {o : Obj} {l : List UInt8} (h : Wt w wr o l) (k : Kept (fun _ => True) wr w') : Wt w w' o l :=
  ⟨h.kept.trans k, (k.block _ (lt_of_block h.box) trivial).trans h.box, h.bu.all k⟩
theorem Wt.write {w wr w' : World} {o : Obj} {l l' : List UInt8} (h : Wt w wr o l) (k : Below (w.heap.size + 1) wr w') (hb : Bu w' (w.heap.size + 1) (w.heap.size + 1) l') : Wt w w' o l' :=
  ⟨h.kept.then ⟨k.os, k.tape, k.output, k.size, fun i _ hp => k.block i hp⟩ (fun i hi _ => by show i < _; omega), (k.block _ (by omega)).trans h.box, hb⟩
theorem other_attr {w w' : World} {b G : Nat} {cs : Array Value} (k : Lib.OthersKept 5 (some b) w w') (hG : w.heap[G]? = some (.cells cs 50 (0, 0))) (hb : G ≠ b) : w'.heap[G]? = some (.cells cs 50 (0, 0)) :=
  k G _ hG (fun e => hb (Option.some.inj e)) (fun c fz e => by simp at e)
/-- Numbers fit. -/
def F64 (n : Int) : Prop := -9223372036854775808 ≤ n ∧ n ≤ 9223372036854775807
def Tfit (t : Ty) : Prop := ∀ a ∈ t.attrs, F64 a.start ∧ F64 a.lo ∧ F64 a.hi
def nmsOf (x : At) : List Int := [x.start, x.lo, x.hi]
def nmT (n : Int) : List UInt8 := [32] ++ Lib.itoa n
theorem semi_attr (x : At) : [59, 32, 97, 116, 116, 114, 32] ++ x.name ++ (nmsOf x).flatMap nmT = semi (pA x) := by
  simp [semi, pA, nmsOf, nmT]
theorem semi_stage (x : Ru) : [59, 32, 115, 116, 97, 103, 101, 32] ++ x.name ++ [32] ++ x.guard = semi (pS x) := by simp [semi, pS]
theorem semi_mark (x : Ru) : [59, 32, 109, 97, 114, 107, 32] ++ x.name ++ [32] ++ x.guard = semi (pM x) := by simp [semi, pM]
theorem flat_take_succ {α β : Type} (f : α → List β) (l : List α) (i : Nat) (h : i < l.length) : (l.take (i + 1)).flatMap f = (l.take i).flatMap f ++ f l[i] := by
  rw [List.take_succ_eq_append_getElem h, List.flatMap_append]
  simp
theorem itoa_len (n : Int) : (Lib.itoa n).length ≤ (Lib.itoa n).length := Nat.le_refl _

set_option maxRecDepth 100000 in
set_option maxHeartbeats 8000000 in
theorem write_any {w : World} {v : Value} {t : Ty} (h : TyV w v t) (ht : Tab w) (hf : Tfit t) (hl : (write t).length ≤ 140737488355328) :
    Calls Tryd.prog 14 #[v] w fun e w' => e = .returned (.string ⟨(write t).toArray⟩) ∧ Kept (fun _ => True) w w' := by
  obtain ⟨va, vs, vm, rfl, ha, hs, hk⟩ := h
  obtain ⟨ao, ac, rfl, la⟩ := ha.form
  obtain ⟨so, sc, rfl, ls⟩ := hs.form
  obtain ⟨mo, mc, rfl, lm⟩ := hk.form
  have HA : Hid (Av w (.slice ao t.attrs.length ac) t.attrs) := ha
  have HS : Hid (Rv w (.slice so t.stages.length sc) t.stages) := hs
  have HM : Hid (Rv w (.slice mo t.marks.length mc) t.marks) := hk
  have HTab : Hid (Tab w) := ht
  have HF : Hid (Tfit t) := hf
  have hwl : pT t.name ++ (t.attrs.flatMap (fun a => semi (pA a)) ++ t.stages.flatMap (fun a => semi (pS a)) ++ t.marks.flatMap (fun a => semi (pM a))) = write t := rfl
  have hl2 := congrArg List.length hwl
  simp only [List.length_append] at hl2
  have l1 : (pT t.name ++ t.attrs.flatMap (fun a => semi (pA a))).length ≤ 140737488355328 := by rw [List.length_append]; omega
  have l2 : (pT t.name ++ t.attrs.flatMap (fun a => semi (pA a)) ++ t.stages.flatMap (fun a => semi (pS a))).length ≤ 140737488355328 := by rw [List.length_append, List.length_append]; omega
  have l3 : (pT t.name ++ t.attrs.flatMap (fun a => semi (pA a)) ++ t.stages.flatMap (fun a => semi (pS a)) ++ t.marks.flatMap (fun a => semi (pM a))).length ≤ 140737488355328 := by rw [List.length_append, List.length_append, List.length_append]; omega
  have HL1 : Hid _ := l1
  have HL2 : Hid _ := l2
  have HL3 : Hid _ := l3
  have HWL : Hid (pT t.name ++ t.attrs.flatMap (fun a => semi (pA a)) ++ t.stages.flatMap (fun a => semi (pS a)) ++ t.marks.flatMap (fun a => semi (pM a)) = write t) := by show _ = _; rw [← hwl]; simp
  have hW0 : Wt w ((w.alloc (.cells #[.string ⟨t.name.toArray⟩, .slice ao t.attrs.length ac, .slice so t.stages.length sc, .slice mo t.marks.length mc] 26)).alloc (.cells #[.pointer none, .slice none 0 0] 60)) (.cells #[.string ⟨t.name.toArray⟩, .slice ao t.attrs.length ac, .slice so t.stages.length sc, .slice mo t.marks.length mc] 26) [] := by
    obtain ⟨x1, x2⟩ := alloc_two w (.cells #[.string ⟨t.name.toArray⟩, .slice ao t.attrs.length ac, .slice so t.stages.length sc, .slice mo t.marks.length mc] 26) (.cells #[.pointer none, .slice none 0 0] 60)
    exact ⟨((Kept.refl _ _).alloc _).alloc _, x1, .inl ⟨Nat.le_refl _, .slice none 0 0, x2, World.ownsRowF_nil _ _ _ _, by simp [Value.ownBlock]⟩⟩
  obtain ⟨⟨z0, z1, z2, z3⟩, _⟩ := four_cell hW0.box
  have hpl : (pT t.name).length ≤ 140737488355328 := by omega
  obtain ⟨y0, hy0, j0⟩ := text_joins [116, 121, 112, 101, 32] t.name (by simp only [pT, List.length_append] at hpl; simpa using hpl)
  have cw := writeS_any hW0.bu y0 (by rw [hy0.out]; simpa [pT] using hpl) (by have := hW0.bu.lt; omega)
  have HY0 : Hid (y0 = pT t.name) := hy0
  have HW0 : Hid (Wt w ((w.alloc (.cells #[.string ⟨t.name.toArray⟩, .slice ao t.attrs.length ac, .slice so t.stages.length sc, .slice mo t.marks.length mc] 26)).alloc (.cells #[.pointer none, .slice none 0 0] 60)) (.cells #[.string ⟨t.name.toArray⟩, .slice ao t.attrs.length ac, .slice so t.stages.length sc, .slice mo t.marks.length mc] 26) []) := hW0
  clear ha hs hk ht hf hwl hl2 l1 l2 l3 hW0 hpl hl hy0
  generalize write t = WT at *
  go_enter Tryd.func14, Tryd.ntmps14
  go_wp2_with fail
  refine Calls.mono cw ?_
  rintro e w2 ⟨⟨r, rfl⟩, hb2, k2, _⟩
  have hW2 : Wt w w2 (.cells #[.string ⟨t.name.toArray⟩, .slice ao t.attrs.length ac, .slice so t.stages.length sc, .slice mo t.marks.length mc] 26) (pT t.name) := HW0.out.write k2 (by rw [← HY0.out]; exact hb2)
  obtain ⟨⟨z0, z1, z2, z3⟩, _⟩ := four_cell hW2.box
  obtain ⟨O, hO⟩ : ∃ O : Obj, O = (.cells #[.string ⟨t.name.toArray⟩, .slice ao t.attrs.length ac, .slice so t.stages.length sc, .slice mo t.marks.length mc] 26) := ⟨_, rfl⟩
  have HO : Hid (O = (.cells #[.string ⟨t.name.toArray⟩, .slice ao t.attrs.length ac, .slice so t.stages.length sc, .slice mo t.marks.length mc] 26)) := hO
  rw [← hO] at hW2
  have HW2 : Hid (Wt w w2 O (pT t.name)) := hW2
  clear cw HW0 HY0 hb2 k2 hW2 j0 hO
  go_wp2_with fail
  go_loopw [5, 7, 19, 34] (fun _ _ t19 _ wr => ∃ i : Nat, i ≤ t.attrs.length ∧ t19 = .int .i64 i ∧ Wt w wr O (pT t.name ++ (t.attrs.take i).flatMap (fun a => semi (pA a)))) (fun _ _ t19 _ _ => t.attrs.length - (intOf t19).toNat)
  case atStart => exact ⟨0, Nat.zero_le _, rfl, by simpa using HW2.out⟩
  case round =>
  obtain ⟨i, hi, rfl, hW⟩ := hrel
  have HW : Hid (Wt w wr O (pT t.name ++ (t.attrs.take i).flatMap (fun a => semi (pA a)))) := hW
  clear hW HW2
  by_cases hlt : i < t.attrs.length
  · obtain ⟨b, off, rfl, hb, q0, q1, q2, q3⟩ := (HA.out.all HW.out.kept).at i hlt
    have HSt : Hid ((t.attrs.take (i + 1)).flatMap (fun a => semi (pA a)) = (t.attrs.take i).flatMap (fun a => semi (pA a)) ++ semi (pA t.attrs[i])) := flat_take_succ _ _ _ hlt
    have HFin : Hid (pT t.name ++ (t.attrs.take i).flatMap (fun a => semi (pA a)) ++ semi (pA t.attrs[i]) = pT t.name ++ (t.attrs.take (i + 1)).flatMap (fun a => semi (pA a))) := by show _ = _; rw [HSt.out, List.append_assoc]
    have HFx : Hid _ := HF.out _ (List.getElem_mem hlt)
    have hlen : ((pT t.name ++ (t.attrs.take i).flatMap (fun a => semi (pA a))) ++ semi (pA t.attrs[i])).length ≤ 140737488355328 := by
      rw [List.append_assoc, ← HSt.out]
      have h1 := HL1.out
      have h2 : (pT t.name ++ (t.attrs.take (i + 1)).flatMap (fun a => semi (pA a)) ++ (t.attrs.drop (i + 1)).flatMap (fun a => semi (pA a))) = pT t.name ++ t.attrs.flatMap (fun a => semi (pA a)) := by
        rw [List.append_assoc, ← List.flatMap_append, List.take_append_drop]
      rw [← h2, List.length_append] at h1
      omega
    have HLen : Hid _ := hlen
    have i1 : (i : Int) < (t.attrs.length : Int) := by omega
    have i0 : (0 : Int) ≤ (i : Int) := by omega
    clear hb hlen
    generalize t.attrs[i] = x at *
    generalize pT t.name ++ (t.attrs.take i).flatMap (fun a => semi (pA a)) = pre at *
    have ka : Kept (fun _ => True) wr (wr.alloc (.cells #[.string ⟨x.name.toArray⟩, .int .i64 x.start, .int .i64 x.lo, .int .i64 x.hi] 50)) := (Kept.refl _ _).alloc _
    have hW3 : Wt w (wr.alloc (.cells #[.string ⟨x.name.toArray⟩, .int .i64 x.start, .int .i64 x.lo, .int .i64 x.hi] 50)) O pre := HW.out.all ka
    have hl4 : pre.length + ([59, 32, 97, 116, 116, 114, 32] ++ x.name).length + ((nmsOf x).flatMap nmT).length ≤ 140737488355328 := by
      have := HLen.out
      rw [← semi_attr] at this
      simp only [List.length_append] at this ⊢
      omega
    have HL4 : Hid _ := hl4
    obtain ⟨y1, hy1, j1⟩ := text_joins [59, 32, 97, 116, 116, 114, 32] x.name (by rw [← List.length_append]; omega)
    have cw := writeS_any hW3.bu y1 (by rw [hy1.out]; omega) (by have := hW3.bu.lt; omega)
    have HW3 : Hid (Wt w (wr.alloc (.cells #[.string ⟨x.name.toArray⟩, .int .i64 x.start, .int .i64 x.lo, .int .i64 x.hi] 50)) O pre) := hW3
    have HG3 : Hid _ := heap_alloc_new wr (.cells #[.string ⟨x.name.toArray⟩, .int .i64 x.start, .int .i64 x.lo, .int .i64 x.hi] 50)
    have HGn : Hid (wr.heap.size ≠ w.heap.size + 1) := by
      have := HW.out.bu.lt
      show _ ≠ _
      omega
    clear ka hW3 hl4
    go_wp2_with fail
    refine Calls.mono cw ?_
    rintro e w4 ⟨⟨r4, rfl⟩, hb4, k4, o4⟩
    have hW4 : Wt w w4 O (pre ++ ([59, 32, 97, 116, 116, 114, 32] ++ x.name)) := HW3.out.write k4 (by rw [← hy1.out]; exact hb4)
    have hG4 := other_attr o4 HG3.out HGn.out
    obtain ⟨⟨g0, g1, g2, g3⟩, _⟩ := four_cell hG4
    have HW4 : Hid (Wt w w4 O (pre ++ ([59, 32, 97, 116, 116, 114, 32] ++ x.name))) := hW4
    generalize wr.heap.size = G at *
    clear cw hb4 k4 o4 hW4 hG4 j1 hy1 HW3 HG3 HGn q0 q1 q2 q3
    go_wp2_with fail
    go_loopw [7, 34] (fun _ t34 wq => ∃ k : Nat, k ≤ 3 ∧ t34 = .int .i64 k ∧ Wt w wq O (pre ++ ([59, 32, 97, 116, 116, 114, 32] ++ x.name) ++ ((nmsOf x).take k).flatMap nmT)) (fun _ t34 _ => 3 - (intOf t34).toNat)
    case atStart => exact ⟨0, by omega, rfl, by simpa using HW4.out⟩
    case round =>
    obtain ⟨k, hk, rfl, hW⟩ := hrel
    have HW5 : Hid (Wt w wr O (pre ++ ([59, 32, 97, 116, 116, 114, 32] ++ x.name) ++ ((nmsOf x).take k).flatMap nmT)) := hW
    clear hW
    by_cases hk3 : k < 3
    · have k1 : (k : Int) < 3 := by omega
      have k0 : (0 : Int) ≤ (k : Int) := by omega
      obtain ⟨n, hn, hnf⟩ : ∃ n, (∀ W, (Instr.index 65 (.agg #[.int .i64 x.start, .int .i64 x.lo, .int .i64 x.hi]) (.int .i64 (k : Nat))).run Tryd.prog W = .ok (.int .i64 n) W) ∧ F64 n ∧ (nmsOf x).take (k + 1) = (nmsOf x).take k ++ [n] := by
        obtain ⟨f1, f2, f3⟩ := HFx.out
        have hcs : k = 0 ∨ k = 1 ∨ k = 2 := by omega
        rcases hcs with rfl | rfl | rfl
        · exact ⟨_, fun _ => by kernel_rfl, f1, rfl⟩
        · exact ⟨_, fun _ => by kernel_rfl, f2, rfl⟩
        · exact ⟨_, fun _ => by kernel_rfl, f3, rfl⟩
      have HST : Hid (((nmsOf x).take (k + 1)).flatMap nmT = ((nmsOf x).take k).flatMap nmT ++ nmT n) := by show _ = _; rw [hnf.2, List.flatMap_append]; simp
      have hlk : (((nmsOf x).take k).flatMap nmT).length + (nmT n).length ≤ ((nmsOf x).flatMap nmT).length := by
        have h2 : ((nmsOf x).take (k + 1)).flatMap nmT ++ ((nmsOf x).drop (k + 1)).flatMap nmT = (nmsOf x).flatMap nmT := by rw [← List.flatMap_append, List.take_append_drop]
        rw [← h2, HST.out, List.length_append, List.length_append]
        omega
      have hl5 := HL4.out
      have hnl : (nmT n).length = 1 + (Lib.itoa n).length := by simp [nmT]; omega
      have ci := itoa_any (w := wr) n hnf.1.1 hnf.1.2 (HTab.out.all HW5.out.kept)
      obtain ⟨y2, hy2, j2⟩ := text_joins [32] (Lib.itoa n) (by simp only [List.length_singleton]; omega)
      have HY2 : Hid (y2 = nmT n) := hy2
      have HLK : Hid (pre.length + ([59, 32, 97, 116, 116, 114, 32] ++ x.name).length + ((((nmsOf x).take k).flatMap nmT).length + (nmT n).length) ≤ 140737488355328) := by show _ ≤ _; omega
      clear hnf hlk hl5 hnl hy2
      generalize Lib.itoa n = dn at *
      go_wp2_with fail
      refine Calls.mono ci ?_
      rintro e w5 ⟨rfl, k5⟩
      have hW6 := HW5.out.all k5
      have cw := writeS_any hW6.bu y2 (by rw [HY2.out]; have := HLK.out; simp only [List.length_append] at this ⊢; omega) (by have := hW6.bu.lt; omega)
      have HW6 : Hid (Wt w w5 O (pre ++ ([59, 32, 97, 116, 116, 114, 32] ++ x.name) ++ ((nmsOf x).take k).flatMap nmT)) := hW6
      clear ci k5 hW6 HW5
      go_wp2_with fail
      refine Calls.mono cw ?_
      rintro e w6 ⟨⟨r6, rfl⟩, hb6, k6, _⟩
      have HW7 : Hid (Wt w w6 O (pre ++ ([59, 32, 97, 116, 116, 114, 32] ++ x.name) ++ ((nmsOf x).take (k + 1)).flatMap nmT)) := HW6.out.write k6 (by
        rw [HST.out, ← List.append_assoc, ← HY2.out]
        exact hb6)
      clear cw hb6 k6 HW6
      go_wp2_with fail
      go_roundw
      case rel => exact ⟨k + 1, by omega, by go_num, HW7.out⟩
      case measure => simp [intOf]; omega
    · have k1 : ¬ (k : Int) < 3 := by omega
      have HW8 : Hid (Wt w wr O (pre ++ semi (pA x))) := by
        have := HW5.out
        rw [List.take_of_length_le (by simp [nmsOf]; omega), List.append_assoc, semi_attr] at this
        exact this
      clear HW5 HW4
      go_wp2_with fail
      go_roundw
      case rel => exact ⟨i + 1, by omega, by go_num, HFin.out ▸ HW8.out⟩
      case measure => simp [intOf]; omega
  · have i1 : ¬ (i : Int) < (t.attrs.length : Int) := by omega
    have HW3 : Hid (Wt w wr O (pT t.name ++ t.attrs.flatMap (fun a => semi (pA a)))) := by
      have := HW.out
      rw [List.take_of_length_le (by omega)] at this
      exact this
    have hbx := HW3.out.box
    rw [HO.out] at hbx
    obtain ⟨⟨z4, z5, z6, z7⟩, _⟩ := four_cell hbx
    clear HW hbx hlt
    go_wp2_with fail
    go_loopw [9, 46] (fun _ ti wr => ∃ i : Nat, i ≤ t.stages.length ∧ ti = .int .i64 i ∧ Wt w wr O (pT t.name ++ t.attrs.flatMap (fun a => semi (pA a)) ++ (t.stages.take i).flatMap (fun a => semi (pS a)))) (fun _ ti _ => t.stages.length - (intOf ti).toNat)
    case atStart => exact ⟨0, Nat.zero_le _, rfl, by simpa using HW3.out⟩
    case round =>
    obtain ⟨i, hi, rfl, hW⟩ := hrel
    have HW : Hid (Wt w wr O (pT t.name ++ t.attrs.flatMap (fun a => semi (pA a)) ++ (t.stages.take i).flatMap (fun a => semi (pS a)))) := hW
    clear hW HW3
    by_cases hlt : i < t.stages.length
    · obtain ⟨b, off, rfl, hb, q0, q1⟩ := (HS.out.all HW.out.kept).at i hlt
      have HSt : Hid ((t.stages.take (i + 1)).flatMap (fun a => semi (pS a)) = (t.stages.take i).flatMap (fun a => semi (pS a)) ++ semi (pS t.stages[i])) := flat_take_succ _ _ _ hlt
      have HFin : Hid (pT t.name ++ t.attrs.flatMap (fun a => semi (pA a)) ++ (t.stages.take i).flatMap (fun a => semi (pS a)) ++ semi (pS t.stages[i]) = pT t.name ++ t.attrs.flatMap (fun a => semi (pA a)) ++ (t.stages.take (i + 1)).flatMap (fun a => semi (pS a))) := by show _ = _; rw [HSt.out, List.append_assoc]
      have hlen : ((pT t.name ++ t.attrs.flatMap (fun a => semi (pA a)) ++ (t.stages.take i).flatMap (fun a => semi (pS a))) ++ semi (pS t.stages[i])).length ≤ 140737488355328 := by
        rw [HFin.out]
        have h1 := HL2.out
        have h2 : (pT t.name ++ t.attrs.flatMap (fun a => semi (pA a)) ++ (t.stages.take (i + 1)).flatMap (fun a => semi (pS a)) ++ (t.stages.drop (i + 1)).flatMap (fun a => semi (pS a))) = pT t.name ++ t.attrs.flatMap (fun a => semi (pA a)) ++ t.stages.flatMap (fun a => semi (pS a)) := by
          rw [List.append_assoc, ← List.flatMap_append, List.take_append_drop]
        rw [← h2, List.length_append] at h1
        omega
      have HLen : Hid _ := hlen
      have i1 : (i : Int) < (t.stages.length : Int) := by omega
      have i0 : (0 : Int) ≤ (i : Int) := by omega
      clear hb hlen
      generalize t.stages[i] = x at *
      generalize pT t.name ++ t.attrs.flatMap (fun a => semi (pA a)) ++ (t.stages.take i).flatMap (fun a => semi (pS a)) = pre at *
      have ka : Kept (fun _ => True) wr (wr.alloc (.cells #[.string ⟨x.name.toArray⟩, .string ⟨x.guard.toArray⟩] 44)) := (Kept.refl _ _).alloc _
      have hW3 : Wt w (wr.alloc (.cells #[.string ⟨x.name.toArray⟩, .string ⟨x.guard.toArray⟩] 44)) O pre := HW.out.all ka
      have hl4 : pre.length + ([59, 32, 115, 116, 97, 103, 101, 32] ++ x.name ++ [32] ++ x.guard).length ≤ 140737488355328 := by
        have := HLen.out
        rw [← semi_stage, List.length_append] at this
        exact this
      simp only [List.length_append] at hl4
      obtain ⟨y1, hy1, j1⟩ := text_joins [59, 32, 115, 116, 97, 103, 101, 32] x.name (by omega)
      have ly1 : y1.length = ([59, 32, 115, 116, 97, 103, 101, 32] : List UInt8).length + x.name.length := by rw [hy1.out, List.length_append]
      obtain ⟨y2, hy2, j2⟩ := text_joins y1 [32] (by rw [ly1]; omega)
      have ly2 : y2.length = y1.length + ([32] : List UInt8).length := by rw [hy2.out, List.length_append]
      obtain ⟨y3, hy3, j3⟩ := text_joins y2 x.guard (by omega)
      have HY3 : Hid (y3 = semi (pS x)) := by show _ = _; rw [hy3.out, hy2.out, hy1.out, semi_stage]
      have cw := writeS_any hW3.bu y3 (by rw [hy3.out, List.length_append]; omega) (by have := hW3.bu.lt; omega)
      have HW3 : Hid (Wt w (wr.alloc (.cells #[.string ⟨x.name.toArray⟩, .string ⟨x.guard.toArray⟩] 44)) O pre) := hW3
      clear ka hW3 hl4 ly1 ly2
      go_wp2_with fail
      refine Calls.mono cw ?_
      rintro e w4 ⟨⟨r4, rfl⟩, hb4, k4, _⟩
      have HW4 : Hid (Wt w w4 O (pre ++ semi (pS x))) := HW3.out.write k4 (by rw [← HY3.out]; exact hb4)
      clear cw hb4 k4 HW3 q0 q1
      go_wp2_with fail
      go_roundw
      case rel => exact ⟨i + 1, by omega, by go_num, HFin.out ▸ HW4.out⟩
      case measure => simp [intOf]; omega
    · have i1 : ¬ (i : Int) < (t.stages.length : Int) := by omega
      have HW5 : Hid (Wt w wr O (pT t.name ++ t.attrs.flatMap (fun a => semi (pA a)) ++ t.stages.flatMap (fun a => semi (pS a)))) := by
        have := HW.out
        rw [List.take_of_length_le (by omega)] at this
        exact this
      have hbx := HW5.out.box
      rw [HO.out] at hbx
      obtain ⟨⟨z4, z5, z6, z7⟩, _⟩ := four_cell hbx
      clear HW hbx hlt
      go_wp2_with fail
      go_loopw [11, 62] (fun _ ti wr => ∃ i : Nat, i ≤ t.marks.length ∧ ti = .int .i64 i ∧ Wt w wr O (pT t.name ++ t.attrs.flatMap (fun a => semi (pA a)) ++ t.stages.flatMap (fun a => semi (pS a)) ++ (t.marks.take i).flatMap (fun a => semi (pM a)))) (fun _ ti _ => t.marks.length - (intOf ti).toNat)
      case atStart => exact ⟨0, Nat.zero_le _, rfl, by simpa using HW5.out⟩
      case round =>
      obtain ⟨i, hi, rfl, hW⟩ := hrel
      have HW : Hid (Wt w wr O (pT t.name ++ t.attrs.flatMap (fun a => semi (pA a)) ++ t.stages.flatMap (fun a => semi (pS a)) ++ (t.marks.take i).flatMap (fun a => semi (pM a)))) := hW
      clear hW HW5
      by_cases hlt : i < t.marks.length
      · obtain ⟨b, off, rfl, hb, q0, q1⟩ := (HM.out.all HW.out.kept).at i hlt
        have HSt : Hid ((t.marks.take (i + 1)).flatMap (fun a => semi (pM a)) = (t.marks.take i).flatMap (fun a => semi (pM a)) ++ semi (pM t.marks[i])) := flat_take_succ _ _ _ hlt
        have HFin : Hid (pT t.name ++ t.attrs.flatMap (fun a => semi (pA a)) ++ t.stages.flatMap (fun a => semi (pS a)) ++ (t.marks.take i).flatMap (fun a => semi (pM a)) ++ semi (pM t.marks[i]) = pT t.name ++ t.attrs.flatMap (fun a => semi (pA a)) ++ t.stages.flatMap (fun a => semi (pS a)) ++ (t.marks.take (i + 1)).flatMap (fun a => semi (pM a))) := by show _ = _; rw [HSt.out, List.append_assoc]
        have hlen : ((pT t.name ++ t.attrs.flatMap (fun a => semi (pA a)) ++ t.stages.flatMap (fun a => semi (pS a)) ++ (t.marks.take i).flatMap (fun a => semi (pM a))) ++ semi (pM t.marks[i])).length ≤ 140737488355328 := by
          rw [HFin.out]
          have h1 := HL3.out
          have h2 : (pT t.name ++ t.attrs.flatMap (fun a => semi (pA a)) ++ t.stages.flatMap (fun a => semi (pS a)) ++ (t.marks.take (i + 1)).flatMap (fun a => semi (pM a)) ++ (t.marks.drop (i + 1)).flatMap (fun a => semi (pM a))) = pT t.name ++ t.attrs.flatMap (fun a => semi (pA a)) ++ t.stages.flatMap (fun a => semi (pS a)) ++ t.marks.flatMap (fun a => semi (pM a)) := by
            rw [List.append_assoc, ← List.flatMap_append, List.take_append_drop]
          rw [← h2, List.length_append] at h1
          omega
        have HLen : Hid _ := hlen
        have i1 : (i : Int) < (t.marks.length : Int) := by omega
        have i0 : (0 : Int) ≤ (i : Int) := by omega
        clear hb hlen
        generalize t.marks[i] = x at *
        generalize pT t.name ++ t.attrs.flatMap (fun a => semi (pA a)) ++ t.stages.flatMap (fun a => semi (pS a)) ++ (t.marks.take i).flatMap (fun a => semi (pM a)) = pre at *
        have ka : Kept (fun _ => True) wr (wr.alloc (.cells #[.string ⟨x.name.toArray⟩, .string ⟨x.guard.toArray⟩] 44)) := (Kept.refl _ _).alloc _
        have hW3 : Wt w (wr.alloc (.cells #[.string ⟨x.name.toArray⟩, .string ⟨x.guard.toArray⟩] 44)) O pre := HW.out.all ka
        have hl4 : pre.length + ([59, 32, 109, 97, 114, 107, 32] ++ x.name ++ [32] ++ x.guard).length ≤ 140737488355328 := by
          have := HLen.out
          rw [← semi_mark, List.length_append] at this
          exact this
        simp only [List.length_append] at hl4
        obtain ⟨y1, hy1, j1⟩ := text_joins [59, 32, 109, 97, 114, 107, 32] x.name (by omega)
        have ly1 : y1.length = ([59, 32, 109, 97, 114, 107, 32] : List UInt8).length + x.name.length := by rw [hy1.out, List.length_append]
        obtain ⟨y2, hy2, j2⟩ := text_joins y1 [32] (by rw [ly1]; omega)
        have ly2 : y2.length = y1.length + ([32] : List UInt8).length := by rw [hy2.out, List.length_append]
        obtain ⟨y3, hy3, j3⟩ := text_joins y2 x.guard (by omega)
        have HY3 : Hid (y3 = semi (pM x)) := by show _ = _; rw [hy3.out, hy2.out, hy1.out, semi_mark]
        have cw := writeS_any hW3.bu y3 (by rw [hy3.out, List.length_append]; omega) (by have := hW3.bu.lt; omega)
        have HW3 : Hid (Wt w (wr.alloc (.cells #[.string ⟨x.name.toArray⟩, .string ⟨x.guard.toArray⟩] 44)) O pre) := hW3
        clear ka hW3 hl4 ly1 ly2
        go_wp2_with fail
        refine Calls.mono cw ?_
        rintro e w4 ⟨⟨r4, rfl⟩, hb4, k4, _⟩
        have HW4 : Hid (Wt w w4 O (pre ++ semi (pM x))) := HW3.out.write k4 (by rw [← HY3.out]; exact hb4)
        clear cw hb4 k4 HW3 q0 q1
        go_wp2_with fail
        go_roundw
        case rel => exact ⟨i + 1, by omega, by go_num, HFin.out ▸ HW4.out⟩
        case measure => simp [intOf]; omega
      · have i1 : ¬ (i : Int) < (t.marks.length : Int) := by omega
        have HW6 : Hid (Wt w wr O (pT t.name ++ t.attrs.flatMap (fun a => semi (pA a)) ++ t.stages.flatMap (fun a => semi (pS a)) ++ t.marks.flatMap (fun a => semi (pM a)))) := by
          have := HW.out
          rw [List.take_of_length_le (by omega)] at this
          exact this
        have hbx := HW6.out.box
        rw [HO.out] at hbx
        obtain ⟨⟨z4, z5, z6, z7⟩, _⟩ := four_cell hbx
        clear HW hbx hlt
        have cs := stringB_any HW6.out.bu (by have := HW6.out.bu.lt; omega)
        have HK : Hid (Kept (fun _ => True) w wr) := HW6.out.kept
        rw [HWL.out] at cs
        go_wp2_with fail
        refine Calls.mono cs ?_
        rintro e w7 ⟨rfl, k7⟩
        go_wp2_with fail
        go_ret
        refine ⟨rfl, HK.out.then ⟨k7.os, k7.tape, k7.output, k7.size, fun i _ hp => k7.block i hp⟩ (fun i hi _ => by show i < _; omega)⟩

end Go.Proofs.YtahbfffhkpojmaaDoor
