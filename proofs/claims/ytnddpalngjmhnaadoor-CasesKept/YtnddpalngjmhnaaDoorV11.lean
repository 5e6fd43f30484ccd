/-
  Text, Ready.
-/
import Derived.Test.YtnddpalngjmhnaaDoorV2
namespace Go.Proofs.YtnddpalngjmhnaaDoor
open Go.RowKit

theorem zip_at {α β : Type} {l : List α} {m : List β} {i : Nat} (h : i < l.length) (h' : i < m.length) : ∃ hz : i < (l.zip m).length, (l.zip m)[i] = (l[i], m[i]) := ⟨by simp; omega, by simp⟩
theorem flat_le {α : Type} (f : α → List UInt8) (pre : List UInt8) (l : List α) (i N : Nat) (h : (pre ++ l.flatMap f).length ≤ N) : (pre ++ (l.take i).flatMap f).length ≤ N := by
  have e : (pre ++ (l.take i).flatMap f) ++ (l.drop i).flatMap f = pre ++ l.flatMap f := by rw [List.append_assoc, ← List.flatMap_append, List.take_append_drop]
  rw [← e, List.length_append] at h
  omega
/-- While a text is written: what was there, the two boxes, the builder at S. -/
structure Wq (B : Nat) (w wr : World) (o p : Obj) (S : Nat) (l : List UInt8) : Prop where
  here : B = w.heap.size
  kept : Kept (fun _ => True) w wr
  box : wr.heap[B]? = some o
  box2 : wr.heap[B + 1]? = some p
  bu : Bu wr S S l
  far : B + 1 < S
theorem Wq.all {B : Nat} {w wr w' : World} {o p : Obj} {S : Nat} {l : List UInt8} (h : Wq B w wr o p S l) (k : Kept (fun _ => True) wr w') : Wq B w w' o p S l :=
  ⟨h.here, h.kept.trans k, (k.block _ (lt_of_block h.box) trivial).trans h.box, (k.block _ (lt_of_block h.box2) trivial).trans h.box2, h.bu.all k, h.far⟩
theorem Wq.write {B : Nat} {w wr w' : World} {o p : Obj} {S : Nat} {l l' : List UInt8} (h : Wq B w wr o p S l) (k : Below S wr w') (hb : Bu w' S S l') : Wq B w w' o p S l' :=
  ⟨h.here, h.kept.then ⟨k.os, k.tape, k.output, k.size, fun i _ hp => k.block i hp⟩ (fun i hi _ => by have := h.far; have := h.here; show i < _; omega), (k.block _ (by have := h.far; omega)).trans h.box, (k.block _ (by have := h.far; omega)).trans h.box2, hb, h.far⟩
theorem Kept.ofWrite {w w' : World} {S G : Nat} {cs : Array Value} (k : Below S w w') (o : Lib.OthersKept 5 (some S) w w') (hG : w.heap[G]? = some (.cells cs 59 (0, 0))) (hne : G ≠ S) : Kept (fun i => i < S ∨ i = G) w w' :=
  ⟨k.os, k.tape, k.output, k.size, fun i _ hp => by
    rcases hp with hp | rfl
    · exact k.block i hp
    · rw [other_attr o hG hne, hG]⟩
theorem text_two (a b : List UInt8) (N : Nat) (h : a.length + b.length ≤ N) (hN : N ≤ 140737488355328) : ∃ y : List UInt8, Hid (y = a ++ b) ∧ y.length = a.length + b.length ∧ ∀ W, (Op.stringOp .add ⟨a.toArray⟩ ⟨b.toArray⟩).run Tryd.prog W = .ok (.string ⟨y.toArray⟩) W := ⟨a ++ b, rfl, by simp, text_plus a b (by omega)⟩

set_option maxRecDepth 100000 in
set_option maxHeartbeats 8000000 in
theorem text_any {w : World} {tv sv : Value} {t : Ty} {s : Sa} (ht : TyV w tv t) (hs : StV w sv s) (g : Good t) (f : Fit t s) (hTab : Tab w) (hl : (textP t s).length ≤ 1000000) :
    Calls Tryd.prog 20 #[tv, sv] w fun e w' => e = .returned (.string ⟨(textP t s).toArray⟩) ∧ Kept (fun _ => True) w w' := by
  have HTy : Hid (TyV w tv t) := ht
  have HSt : Hid (StV w sv s) := hs
  obtain ⟨ta, ts, tm, rfl, ha, hss, hkk⟩ := ht
  obtain ⟨ao, ac, rfl, la⟩ := ha.form
  obtain ⟨so, sc, rfl, ls⟩ := hss.form
  obtain ⟨mo, mc, rfl, lm⟩ := hkk.form
  obtain ⟨va, vd, vg, rfl, h1, h2, h3⟩ := hs
  obtain ⟨vo, vc, rfl, -, -⟩ := h1.ints
  obtain ⟨eo, ec, rfl, -, -⟩ := h2.bools
  obtain ⟨go, gc, rfl, -, -⟩ := h3.bools
  obtain ⟨x1, x2⟩ := alloc_two w (.cells #[.string ⟨t.name.toArray⟩, .slice ao t.attrs.length ac, .slice so t.stages.length sc, .slice mo t.marks.length mc] 25) (.cells #[.string ⟨s.type.toArray⟩, .slice vo s.vals.length vc, .slice eo s.done.length ec, .slice go s.got.length gc] 31)
  have hk1 : Kept (fun _ => True) w ((w.alloc (.cells #[.string ⟨t.name.toArray⟩, .slice ao t.attrs.length ac, .slice so t.stages.length sc, .slice mo t.marks.length mc] 25)).alloc (.cells #[.string ⟨s.type.toArray⟩, .slice vo s.vals.length vc, .slice eo s.done.length ec, .slice go s.got.length gc] 31)) := ((Kept.refl _ _).alloc _).alloc _
  have cs := sound_any (HTy.out.all hk1) (HSt.out.all hk1) g f
  obtain ⟨⟨y0, y1, y2, y3⟩, _⟩ := four_cell x1
  obtain ⟨⟨z0, z1, z2, z3⟩, _⟩ := four_cell x2
  have HA : Hid (Av w (.slice ao t.attrs.length ac) t.attrs) := ha
  have HS : Hid (Rv w (.slice so t.stages.length sc) t.stages) := hss
  have HM : Hid (Rv w (.slice mo t.marks.length mc) t.marks) := hkk
  have HV : Hid (Cv w (.slice vo s.vals.length vc) (iv s.vals)) := h1
  have HE : Hid (Cv w (.slice eo s.done.length ec) (bv s.done)) := h2
  have HG : Hid (Cv w (.slice go s.got.length gc) (bv s.got)) := h3
  have HTb : Hid (Tab w) := hTab
  have HF : Hid (Fit t s) := f
  have HGd : Hid (Good t) := g
  have K1 : Hid _ := hk1
  have X1 : Hid _ := x1
  have X2 : Hid _ := x2
  have HL3 : Hid ((t.name ++ (t.attrs.zip s.vals).flatMap tA ++ (t.stages.zip s.done).flatMap tS ++ (t.marks.zip s.got).flatMap tM).length ≤ 1000000) := hl
  have HL2 : Hid ((t.name ++ (t.attrs.zip s.vals).flatMap tA ++ (t.stages.zip s.done).flatMap tS).length ≤ 1000000) := by
    have := HL3.out; rw [List.length_append] at this; show _ ≤ _; omega
  have HL1 : Hid ((t.name ++ (t.attrs.zip s.vals).flatMap tA).length ≤ 1000000) := by
    have := HL2.out; rw [List.length_append] at this; show _ ≤ _; omega
  have HL0 : Hid (t.name.length ≤ 1000000) := by
    have := HL1.out; rw [List.length_append] at this; show _ ≤ _; omega
  obtain ⟨WT, hWT⟩ : ∃ WT, WT = textP t s := ⟨_, rfl⟩
  have HWT : Hid (t.name ++ (t.attrs.zip s.vals).flatMap tA ++ (t.stages.zip s.done).flatMap tS ++ (t.marks.zip s.got).flatMap tM = WT) := hWT.symm
  rw [← hWT]
  have ev : s.vals.length = t.attrs.length := f.sz.vals
  have ed : s.done.length = t.stages.length := f.sz.done
  have eg : s.got.length = t.marks.length := f.sz.got
  have EV : Hid _ := ev
  have ED : Hid _ := ed
  have EG : Hid _ := eg
  clear ha hss hkk h1 h2 h3 x1 x2 hk1 g f hTab hl hWT ev ed eg
  go_enter Tryd.func20, Tryd.ntmps20
  go_wp2_with fail
  refine Calls.mono cs ?_
  obtain ⟨B, hBB⟩ : ∃ B, B = w.heap.size := ⟨_, rfl⟩
  have HBB : Hid (B = w.heap.size) := hBB
  rw [← hBB] at X1 X2 ⊢
  clear hBB
  rintro e w2 ⟨rfl, k2⟩
  have hB1 := (k2.block _ (lt_of_block X1.out) trivial).trans X1.out
  have hB2 := (k2.block _ (lt_of_block X2.out) trivial).trans X2.out
  have K2 : Hid (Kept (fun _ => True) w w2) := K1.out.trans k2
  have ka : Kept (fun _ => True) w2 (w2.alloc (.cells #[.pointer none, .slice none 0 0] 70)) := (Kept.refl _ _).alloc _
  obtain ⟨O1, hO1⟩ : ∃ o, o = Obj.cells #[.string ⟨t.name.toArray⟩, .slice ao t.attrs.length ac, .slice so t.stages.length sc, .slice mo t.marks.length mc] 25 := ⟨_, rfl⟩
  obtain ⟨O2, hO2⟩ : ∃ o, o = Obj.cells #[.string ⟨s.type.toArray⟩, .slice vo s.vals.length vc, .slice eo s.done.length ec, .slice go s.got.length gc] 31 := ⟨_, rfl⟩
  have HO1 : Hid _ := hO1
  have HO2 : Hid _ := hO2
  have hW0 : Wq B w (w2.alloc (.cells #[.pointer none, .slice none 0 0] 70)) O1 O2 w2.heap.size [] := by
    refine ⟨HBB.out, K2.out.trans ka, ?_, ?_, .inl ⟨Nat.le_refl _, .slice none 0 0, heap_alloc_new _ _, World.ownsRowF_nil _ _ _ _, by simp [Value.ownBlock]⟩, ?_⟩
    · rw [hO1]; exact (ka.block _ (lt_of_block hB1) trivial).trans hB1
    · rw [hO2]; exact (ka.block _ (lt_of_block hB2) trivial).trans hB2
    · exact lt_of_block hB2
  have cw := writeS_any hW0.bu t.name (by have := HL0.out; simp; omega) (by have := hW0.bu.lt; omega)
  have hbx := hW0.box
  rw [hO1] at hbx
  have HW0 : Hid _ := hW0
  clear cs y0 y1 y2 y3 z0 z1 z2 z3 k2 X1 X2 K1 hB1 hB2 ka hO1 hO2 hW0
  obtain ⟨⟨y0, y1, y2, y3⟩, _⟩ := four_cell hbx
  obtain ⟨S, hS⟩ : ∃ S, S = w2.heap.size := ⟨_, rfl⟩
  rw [← hS] at cw HW0
  go_wp2_with fail
  rw [← hS]
  refine Calls.mono cw ?_
  rintro e w3 ⟨⟨r, rfl⟩, hb3, k3, _⟩
  have hW3 := HW0.out.write k3 (by simpa using hb3)
  have hbx3 := hW3.box
  rw [HO1.out] at hbx3
  have HW3 : Hid (Wq B w w3 O1 O2 S t.name) := hW3
  clear y0 y1 y2 y3 hbx cw hb3 k3 HW0 hW3 hS
  obtain ⟨⟨y0, y1, y2, y3⟩, _⟩ := four_cell hbx3
  clear hbx3
  go_wp2_with fail
  clear y0 y1 y2 y3
  go_loopw [6, 7, 22] (fun _ _ ti wr => ∃ i : Nat, i ≤ t.attrs.length ∧ ti = .int .i64 i ∧ Wq B w wr O1 O2 S (t.name ++ ((t.attrs.zip s.vals).take i).flatMap tA)) (fun _ _ ti _ => t.attrs.length - (intOf ti).toNat)
  case atStart => exact ⟨0, Nat.zero_le _, rfl, by simpa using HW3.out⟩
  case round =>
  obtain ⟨i, hi, rfl, hW⟩ := hrel
  have HW : Hid (Wq B w wr O1 O2 S (t.name ++ ((t.attrs.zip s.vals).take i).flatMap tA)) := hW
  by_cases hlt : i < t.attrs.length
  · have hv : i < s.vals.length := by rw [EV.out]; exact hlt
    obtain ⟨b, off, rfl, hb, q0, q1, q2, q3⟩ := (HA.out.all hW.kept).at i hlt
    obtain ⟨b2, off2, rfl, hb2, c00⟩ := HV.out.intAt i hv
    have c0 := (kept_cell hW.kept hb2 (o := off2 + i) trivial).trans c00
    have hb2w : b2 < wr.heap.size := Nat.lt_of_lt_of_le hb2 hW.kept.size
    have HB2 : Hid (b2 < w.heap.size) := hb2
    clear c00 hb2
    obtain ⟨hz1, hz2⟩ := zip_at hlt hv
    have HFin : Hid (t.name ++ ((t.attrs.zip s.vals).take (i + 1)).flatMap tA = t.name ++ ((t.attrs.zip s.vals).take i).flatMap tA ++ tA (t.attrs[i], s.vals[i])) := by
      show _ = _
      rw [flat_take_succ _ _ _ hz1, hz2, List.append_assoc]
    have hlen := flat_le tA t.name (t.attrs.zip s.vals) (i + 1) _ HL1.out
    rw [HFin.out] at hlen
    have hbd : -1000 ≤ s.vals[i] ∧ s.vals[i] ≤ 1000 := by
      have h1 := HF.out.within i hlt
      have h2 := HGd.out.ranges t.attrs[i] (List.getElem_mem hlt)
      simp only [List.getD_eq_getElem?_getD, hlt, hv, List.getElem?_eq_getElem, Option.getD_some, wthn, Bool.and_eq_true, decide_eq_true_eq] at h1
      omega
    have i1 : (i : Int) < (t.attrs.length : Int) := by omega
    have i2 : (i : Int) < (s.vals.length : Int) := by omega
    have i0 : (0 : Int) ≤ (i : Int) := by omega
    clear hz1 hz2 hb
    generalize t.attrs[i] = x at *
    generalize s.vals[i] = n at *
    generalize t.name ++ ((t.attrs.zip s.vals).take i).flatMap tA = pre at *
    have ka : Kept (fun _ => True) wr (wr.alloc (.cells #[.string ⟨x.name.toArray⟩, .int .i64 x.start, .int .i64 x.lo, .int .i64 x.hi] 59)) := (Kept.refl _ _).alloc _
    have hW4 := hW.all ka
    have hG := heap_alloc_new wr (.cells #[.string ⟨x.name.toArray⟩, .int .i64 x.start, .int .i64 x.lo, .int .i64 x.hi] 59)
    have c1 := (kept_cell ka hb2w (o := off2 + i) trivial).trans c0
    have hb3 : b2 < (wr.alloc (.cells #[.string ⟨x.name.toArray⟩, .int .i64 x.start, .int .i64 x.lo, .int .i64 x.hi] 59)).heap.size := Nat.lt_of_lt_of_le hb2w ka.size
    have hbx := hW4.box2
    rw [HO2.out] at hbx
    have HW4 : Hid (Wq B w (wr.alloc (.cells #[.string ⟨x.name.toArray⟩, .int .i64 x.start, .int .i64 x.lo, .int .i64 x.hi] 59)) O1 O2 S pre) := hW4
    simp only [tA, List.length_append, List.length_singleton] at hlen
    obtain ⟨ya, hya, lya, ja⟩ := text_two [32] x.name 1000000 (by simp only [List.length_singleton]; omega) (by omega)
    obtain ⟨yb, hyb, lyb, jb⟩ := text_two ya [61] 1000000 (by simp only [List.length_singleton] at lya ⊢; omega) (by omega)
    obtain ⟨yc, hyc, lyc, jc⟩ := text_two yb (Lib.itoa n) 1000000 (by simp only [List.length_singleton] at lya lyb; omega) (by omega)
    have HY : Hid (yc = tA (x, n)) := by show _ = _; rw [hyc.out, hyb.out, hya.out]; rfl
    have HYl : Hid (pre.length + yc.length ≤ 1000000) := by
      show _ ≤ _
      simp only [List.length_singleton] at lya lyb
      omega
    have HBd : Hid _ := hbd
    clear hW hW4 ka c0 hb2w hlen lya lyb lyc hya hyb hyc hbd
    go_upto_region 8 with fail
    generalize wr.alloc (.cells #[.string ⟨x.name.toArray⟩, .int .i64 x.start, .int .i64 x.lo, .int .i64 x.hi] 59) = w4 at *
    generalize wr.heap.size = G at *
    obtain ⟨⟨g0, g1, g2, g3⟩, _⟩ := four_cell hG
    obtain ⟨⟨z0, z1, z2, z3⟩, _⟩ := four_cell hbx
    have hGS : G ≠ S := by
      intro e
      have h1 := HW4.out.bu
      subst e
      rcases h1 with h1 | h1
      · obtain ⟨_, v, h2, _⟩ := h1
        rw [hG] at h2
        simp at h2
      · obtain ⟨_, v, h2, _⟩ := h1
        rw [hG] at h2
        simp at h2
    have HGS : Hid _ := hGS
    have HG4 : Hid _ := hG
    have hfar := HW4.out.far
    have hbS : b2 < S := by have := HB2.out; have := HBB.out; omega
    have hB1S : B + 1 < S := hfar
    have G0 := fun W (q : Kept (fun i => i < S ∨ i = G) w4 W) => (kept_cell q (lt_of_block hG) (Or.inr rfl)).trans g0
    have G1 := fun W (q : Kept (fun i => i < S ∨ i = G) w4 W) => (kept_cell q (lt_of_block hbx) (Or.inl hB1S)).trans z1
    have C1 := fun W (q : Kept (fun i => i < S ∨ i = G) w4 W) => (kept_cell q hb3 (Or.inl hbS)).trans c1
    have kd : Kept (fun i => i < S ∨ i = G) w4 w4.drew := (Kept.refl _ _).drew
    clear g0 g1 g2 g3 z0 z1 z2 z3 c1 hb3 hG hbx hGS hfar hbS hB1S q0 q1 q2 q3
    go_region_held3 (fun W => Kept (fun i => i < S ∨ i = G) w4 W) (assumption) (first
      | (go_at_call 43; refine Calls.mono (itoa_any n (by have := HBd.out; omega) (by have := HBd.out; omega) (HTb.out.all HW4.out.kept.drew)) ?_; rintro e w5 ⟨rfl, k5⟩; have HK5 : Hid (Kept (fun _ => True) w4 w5) := (Kept.refl _ _).drew.trans k5; have p5 : Kept (fun i => i < S ∨ i = G) w4 w5 := HK5.out.mono (fun _ _ _ => trivial); clear k5)
      | (go_at_call 42; refine Calls.mono (writeS_any (HW4.out.all HK5.out).bu yc (by have := HYl.out; omega) (by have := (HW4.out.all HK5.out).bu.lt; omega)) ?_; rintro e w6 ⟨⟨r6, rfl⟩, hb6, k6, o6⟩; have HW6 : Hid (Wq B w w6 O1 O2 S (pre ++ yc)) := (HW4.out.all HK5.out).write k6 hb6; have p6 : Kept (fun i => i < S ∨ i = G) w4 w6 := p5.trans (Kept.ofWrite k6 o6 ((HK5.out.block _ (lt_of_block HG4.out) trivial).trans HG4.out) HGS.out); clear hb6 k6 o6))
    all_goals
      have HW7 : Hid (Wq B w w6 O1 O2 S (t.name ++ ((t.attrs.zip s.vals).take (i + 1)).flatMap tA)) := by
        have := HW6.out
        rw [HY.out, ← HFin.out] at this
        exact this
      clear G0 G1 C1 kd p5 p6 ja jb jc
      go_wp2_with fail
      go_roundw
      case rel => exact ⟨i + 1, by omega, by go_num, HW7.out⟩
      case measure => simp [intOf]; omega
  · have i1 : ¬ (i : Int) < (t.attrs.length : Int) := by omega
    have HPS : Hid (Wq B w wr O1 O2 S (t.name ++ (t.attrs.zip s.vals).flatMap tA)) := by
      have := HW.out
      rw [List.take_of_length_le (by simp; omega)] at this
      exact this
    have hbx := HPS.out.box
    rw [HO1.out] at hbx
    obtain ⟨⟨y0, y1, y2, y3⟩, _⟩ := four_cell hbx
    clear hW HW hbx
    go_wp2_with fail
    clear y0 y1 y2 y3
    go_loopw [8, 9, 43] (fun _ _ ti wr => ∃ i : Nat, i ≤ t.stages.length ∧ ti = .int .i64 i ∧ Wq B w wr O1 O2 S (t.name ++ (t.attrs.zip s.vals).flatMap tA ++ ((t.stages.zip s.done).take i).flatMap tS)) (fun _ _ ti _ => t.stages.length - (intOf ti).toNat)
    case atStart => exact ⟨0, Nat.zero_le _, rfl, by simpa using HPS.out⟩
    case round =>
    obtain ⟨i, hi, rfl, hW⟩ := hrel
    have HW : Hid (Wq B w wr O1 O2 S (t.name ++ (t.attrs.zip s.vals).flatMap tA ++ ((t.stages.zip s.done).take i).flatMap tS)) := hW
    by_cases hlt : i < t.stages.length
    · have hv : i < s.done.length := by rw [ED.out]; exact hlt
      obtain ⟨b, off, rfl, hb, q0, q1⟩ := (HS.out.all hW.kept).at i hlt
      obtain ⟨b2, off2, rfl, hb2, c00⟩ := HE.out.boolAt i hv
      have c0 := (kept_cell hW.kept hb2 (o := off2 + i) trivial).trans c00
      have hb2w : b2 < wr.heap.size := Nat.lt_of_lt_of_le hb2 hW.kept.size
      obtain ⟨hz1, hz2⟩ := zip_at hlt hv
      have HFin : Hid (t.name ++ (t.attrs.zip s.vals).flatMap tA ++ ((t.stages.zip s.done).take (i + 1)).flatMap tS = t.name ++ (t.attrs.zip s.vals).flatMap tA ++ ((t.stages.zip s.done).take i).flatMap tS ++ tS (t.stages[i], s.done[i])) := by
        show _ = _
        rw [flat_take_succ _ _ _ hz1, hz2]
        simp only [List.append_assoc]
      have hlen := flat_le tS (t.name ++ (t.attrs.zip s.vals).flatMap tA) (t.stages.zip s.done) (i + 1) _ HL2.out
      rw [HFin.out] at hlen
      have i1 : (i : Int) < (t.stages.length : Int) := by omega
      have i2 : (i : Int) < (s.done.length : Int) := by omega
      have i0 : (0 : Int) ≤ (i : Int) := by omega
      clear hz1 hz2 hb c00
      generalize t.stages[i] = x at *
      generalize s.done[i] = n at *
      generalize t.name ++ (t.attrs.zip s.vals).flatMap tA ++ ((t.stages.zip s.done).take i).flatMap tS = pre at *
      have ka : Kept (fun _ => True) wr (wr.alloc (.cells #[.string ⟨x.name.toArray⟩, .string ⟨x.guard.toArray⟩] 55)) := (Kept.refl _ _).alloc _
      have hW4 := hW.all ka
      have hG := heap_alloc_new wr (.cells #[.string ⟨x.name.toArray⟩, .string ⟨x.guard.toArray⟩] 55)
      have c1 := (kept_cell ka hb2w (o := off2 + i) trivial).trans c0
      have hbx := hW4.box2
      rw [HO2.out] at hbx
      have HW4 : Hid (Wq B w (wr.alloc (.cells #[.string ⟨x.name.toArray⟩, .string ⟨x.guard.toArray⟩] 55)) O1 O2 S pre) := hW4
      obtain ⟨⟨z0, z1, z2, z3⟩, _⟩ := four_cell hbx
      clear hW hW4 ka c0 hb2 hb2w hbx
      cases n with
      | false =>
        have HQ : Hid (Wq B w (wr.alloc (.cells #[.string ⟨x.name.toArray⟩, .string ⟨x.guard.toArray⟩] 55)) O1 O2 S (t.name ++ (t.attrs.zip s.vals).flatMap tA ++ ((t.stages.zip s.done).take (i + 1)).flatMap tS)) := by
          have h4 := HW4.out
          show Wq _ _ _ _ _ _ _
          rw [HFin.out]
          simpa [tS] using h4
        clear hlen
        go_wp2_with fail
        go_roundw
        case rel => exact ⟨i + 1, by omega, by go_num, HQ.out⟩
        case measure => simp [intOf]; omega
      | true =>
        have hle2 : pre.length + ([32, 43] ++ x.name).length ≤ 1000000 := by
          have := hlen
          rw [List.length_append] at this
          simpa [tS] using this
        obtain ⟨ya, hya, lya, ja⟩ := text_two [32, 43] x.name 1000000 (by rw [← List.length_append]; omega) (by omega)
        have cw := writeS_any HW4.out.bu ya (by rw [hya.out]; omega) (by have := HW4.out.bu.lt; omega)
        have HYA : Hid (ya = tS (x, true)) := by show _ = _; rw [hya.out]; simp [tS]
        clear hlen hle2 lya hya
        go_wp2_with fail
        refine Calls.mono cw ?_
        rintro e w6 ⟨⟨r6, rfl⟩, hb6, k6, o6⟩
        have HQ : Hid (Wq B w w6 O1 O2 S (t.name ++ (t.attrs.zip s.vals).flatMap tA ++ ((t.stages.zip s.done).take (i + 1)).flatMap tS)) := by
          have := HW4.out.write k6 hb6
          rw [HYA.out, ← HFin.out] at this
          exact this
        clear cw hb6 k6 o6 z0 z1 z2 z3 c1 hG
        go_wp2_with fail
        go_roundw
        case rel => exact ⟨i + 1, by omega, by go_num, HQ.out⟩
        case measure => simp [intOf]; omega
    · have i1 : ¬ (i : Int) < (t.stages.length : Int) := by omega
      have HPM : Hid (Wq B w wr O1 O2 S (t.name ++ (t.attrs.zip s.vals).flatMap tA ++ (t.stages.zip s.done).flatMap tS)) := by
        have := HW.out
        rw [List.take_of_length_le (by simp; omega)] at this
        exact this
      have hbx := HPM.out.box
      rw [HO1.out] at hbx
      obtain ⟨⟨y0, y1, y2, y3⟩, _⟩ := four_cell hbx
      clear hW HW hbx
      go_wp2_with fail
      clear y0 y1 y2 y3
      go_loopw [10, 11, 61] (fun _ _ ti wr => ∃ i : Nat, i ≤ t.marks.length ∧ ti = .int .i64 i ∧ Wq B w wr O1 O2 S (t.name ++ (t.attrs.zip s.vals).flatMap tA ++ (t.stages.zip s.done).flatMap tS ++ ((t.marks.zip s.got).take i).flatMap tM)) (fun _ _ ti _ => t.marks.length - (intOf ti).toNat)
      case atStart => exact ⟨0, Nat.zero_le _, rfl, by simpa using HPM.out⟩
      case round =>
      obtain ⟨i, hi, rfl, hW⟩ := hrel
      have HW : Hid (Wq B w wr O1 O2 S (t.name ++ (t.attrs.zip s.vals).flatMap tA ++ (t.stages.zip s.done).flatMap tS ++ ((t.marks.zip s.got).take i).flatMap tM)) := hW
      by_cases hlt : i < t.marks.length
      · have hv : i < s.got.length := by rw [EG.out]; exact hlt
        obtain ⟨b, off, rfl, hb, q0, q1⟩ := (HM.out.all hW.kept).at i hlt
        obtain ⟨b2, off2, rfl, hb2, c00⟩ := HG.out.boolAt i hv
        have c0 := (kept_cell hW.kept hb2 (o := off2 + i) trivial).trans c00
        have hb2w : b2 < wr.heap.size := Nat.lt_of_lt_of_le hb2 hW.kept.size
        obtain ⟨hz1, hz2⟩ := zip_at hlt hv
        have HFin : Hid (t.name ++ (t.attrs.zip s.vals).flatMap tA ++ (t.stages.zip s.done).flatMap tS ++ ((t.marks.zip s.got).take (i + 1)).flatMap tM = t.name ++ (t.attrs.zip s.vals).flatMap tA ++ (t.stages.zip s.done).flatMap tS ++ ((t.marks.zip s.got).take i).flatMap tM ++ tM (t.marks[i], s.got[i])) := by
          show _ = _
          rw [flat_take_succ _ _ _ hz1, hz2]
          simp only [List.append_assoc]
        have hlen := flat_le tM (t.name ++ (t.attrs.zip s.vals).flatMap tA ++ (t.stages.zip s.done).flatMap tS) (t.marks.zip s.got) (i + 1) _ HL3.out
        rw [HFin.out] at hlen
        have i1 : (i : Int) < (t.marks.length : Int) := by omega
        have i2 : (i : Int) < (s.got.length : Int) := by omega
        have i0 : (0 : Int) ≤ (i : Int) := by omega
        clear hz1 hz2 hb c00
        generalize t.marks[i] = x at *
        generalize s.got[i] = n at *
        generalize t.name ++ (t.attrs.zip s.vals).flatMap tA ++ (t.stages.zip s.done).flatMap tS ++ ((t.marks.zip s.got).take i).flatMap tM = pre at *
        have ka : Kept (fun _ => True) wr (wr.alloc (.cells #[.string ⟨x.name.toArray⟩, .string ⟨x.guard.toArray⟩] 55)) := (Kept.refl _ _).alloc _
        have hW4 := hW.all ka
        have hG := heap_alloc_new wr (.cells #[.string ⟨x.name.toArray⟩, .string ⟨x.guard.toArray⟩] 55)
        have c1 := (kept_cell ka hb2w (o := off2 + i) trivial).trans c0
        have hbx := hW4.box2
        rw [HO2.out] at hbx
        have HW4 : Hid (Wq B w (wr.alloc (.cells #[.string ⟨x.name.toArray⟩, .string ⟨x.guard.toArray⟩] 55)) O1 O2 S pre) := hW4
        obtain ⟨⟨z0, z1, z2, z3⟩, _⟩ := four_cell hbx
        clear hW hW4 ka c0 hb2 hb2w hbx
        cases n with
        | false =>
          have HQ : Hid (Wq B w (wr.alloc (.cells #[.string ⟨x.name.toArray⟩, .string ⟨x.guard.toArray⟩] 55)) O1 O2 S (t.name ++ (t.attrs.zip s.vals).flatMap tA ++ (t.stages.zip s.done).flatMap tS ++ ((t.marks.zip s.got).take (i + 1)).flatMap tM)) := by
            have h4 := HW4.out
            show Wq _ _ _ _ _ _ _
            rw [HFin.out]
            simpa [tM] using h4
          clear hlen
          go_wp2_with fail
          go_roundw
          case rel => exact ⟨i + 1, by omega, by go_num, HQ.out⟩
          case measure => simp [intOf]; omega
        | true =>
          have hle2 : pre.length + ([32, 42] ++ x.name).length ≤ 1000000 := by
            have := hlen
            rw [List.length_append] at this
            simpa [tM] using this
          obtain ⟨ya, hya, lya, ja⟩ := text_two [32, 42] x.name 1000000 (by rw [← List.length_append]; omega) (by omega)
          have cw := writeS_any HW4.out.bu ya (by rw [hya.out]; omega) (by have := HW4.out.bu.lt; omega)
          have HYA : Hid (ya = tM (x, true)) := by show _ = _; rw [hya.out]; simp [tM]
          clear hlen hle2 lya hya
          go_wp2_with fail
          refine Calls.mono cw ?_
          rintro e w6 ⟨⟨r6, rfl⟩, hb6, k6, o6⟩
          have HQ : Hid (Wq B w w6 O1 O2 S (t.name ++ (t.attrs.zip s.vals).flatMap tA ++ (t.stages.zip s.done).flatMap tS ++ ((t.marks.zip s.got).take (i + 1)).flatMap tM)) := by
            have := HW4.out.write k6 hb6
            rw [HYA.out, ← HFin.out] at this
            exact this
          clear cw hb6 k6 o6 z0 z1 z2 z3 c1 hG
          go_wp2_with fail
          go_roundw
          case rel => exact ⟨i + 1, by omega, by go_num, HQ.out⟩
          case measure => simp [intOf]; omega
      · have i1 : ¬ (i : Int) < (t.marks.length : Int) := by omega
        have HW9 : Hid (Wq B w wr O1 O2 S (t.name ++ (t.attrs.zip s.vals).flatMap tA ++ (t.stages.zip s.done).flatMap tS ++ (t.marks.zip s.got).flatMap tM)) := by
          have := HW.out
          rw [List.take_of_length_le (by simp; omega)] at this
          exact this
        have cst := stringB_any HW9.out.bu (by have := HW9.out.bu.lt; omega)
        rw [HWT.out] at cst
        clear hW
        go_wp2_with fail
        refine Calls.mono cst ?_
        rintro e w9 ⟨rfl, k9⟩
        go_wp2_with fail
        go_ret
        refine ⟨rfl, HW9.out.kept.then ⟨k9.os, k9.tape, k9.output, k9.size, fun i _ hp => k9.block i hp⟩ (fun i hi _ => by have := HW9.out.far; have := HBB.out; show i < _; omega)⟩

end Go.Proofs.YtnddpalngjmhnaaDoor
