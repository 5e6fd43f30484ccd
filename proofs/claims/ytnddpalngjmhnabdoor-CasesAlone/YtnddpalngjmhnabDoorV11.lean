/-
  Text, Ready.
-/
import Derived.Test.YtnddpalngjmhnabDoorV1
import Derived.Test.YtnddpalngjmhnabDoorVOrd
namespace Go.Proofs.YtnddpalngjmhnabDoor
open Go.RowKit

theorem zip_at {α β : Type} {l : List α} {m : List β} {i : Nat} (h : i < l.length) (h' : i < m.length) : ∃ hz : i < (l.zip m).length, (l.zip m)[i] = (l[i], m[i]) := ⟨by simp; omega, by simp⟩
theorem flat_le {α : Type} (f : α → List UInt8) (pre : List UInt8) (l : List α) (i N : Nat) (h : (pre ++ l.flatMap f).length ≤ N) : (pre ++ (l.take i).flatMap f).length ≤ N := by
  have e : (pre ++ (l.take i).flatMap f) ++ (l.drop i).flatMap f = pre ++ l.flatMap f := by rw [List.append_assoc, ← List.flatMap_append, List.take_append_drop]
  rw [← e, List.length_append] at h
  omega
/-- While a text is written: what was there, the two boxes, the builder at S. -/
structure Wq (B : Nat) (w wr : World) (o p : Obj) (S : Nat) (l : List UInt8) : Prop where
  here : B = w.heap.size
  kept : Kept (fun _ => True) w wr
  box : wr.heap[B]? = some o
  box2 : wr.heap[B + 1]? = some p
  bu : Bu wr S S l
  far : B + 1 < S
theorem Wq.all {B : Nat} {w wr w' : World} {o p : Obj} {S : Nat} {l : List UInt8} (h : Wq B w wr o p S l) (k : Kept (fun _ => True) wr w') : Wq B w w' o p S l :=
  ⟨h.here, h.kept.trans k, (k.block _ (lt_of_block h.box) trivial).trans h.box, (k.block _ (lt_of_block h.box2) trivial).trans h.box2, h.bu.all k, h.far⟩
theorem Wq.write {B : Nat} {w wr w' : World} {o p : Obj} {S : Nat} {l l' : List UInt8} (h : Wq B w wr o p S l) (k : Below S wr w') (hb : Bu w' S S l') : Wq B w w' o p S l' :=
  ⟨h.here, h.kept.then ⟨k.os, k.tape, k.output, k.size, fun i _ hp => k.block i hp⟩ (fun i hi _ => by have := h.far; have := h.here; show i < _; omega), (k.block _ (by have := h.far; omega)).trans h.box, (k.block _ (by have := h.far; omega)).trans h.box2, hb, h.far⟩
theorem Kept.ofWrite {w w' : World} {S G : Nat} {cs : Array Value} (k : Below S w w') (o : Lib.OthersKept 5 (some S) w w') (hG : w.heap[G]? = some (.cells cs 48 (0, 0))) (hne : G ≠ S) : Kept (fun i => i < S ∨ i = G) w w' :=
  ⟨k.os, k.tape, k.output, k.size, fun i _ hp => by
    rcases hp with hp | rfl
    · exact k.block i hp
    · rw [other_attr o hG hne, hG]⟩
theorem text_two (a b : List UInt8) (N : Nat) (h : a.length + b.length ≤ N) (hN : N ≤ 140737488355328) : ∃ y : List UInt8, Hid (y = a ++ b) ∧ y.length = a.length + b.length ∧ ∀ W, (Op.stringOp .add ⟨a.toArray⟩ ⟨b.toArray⟩).run Tryd.prog W = .ok (.string ⟨y.toArray⟩) W := ⟨a ++ b, rfl, by simp, text_plus a b (by omega)⟩

set_option maxRecDepth 100000 in
set_option maxHeartbeats 8000000 in
theorem text_any {w : World} {tv sv : Value} {t : Ty} {s : Sa} (ht : TyV w tv t) (hs : StV w sv s) (g : Good t) (f : Fit t s) (hTab : Tab w) (hl : (textP t s).length ≤ 1000000) :
    Calls Tryd.prog 22 #[tv, sv] w fun e w' => e = .returned (.string ⟨(textP t s).toArray⟩) ∧ Kept (fun _ => True) w w' := by
  have HTy : Hid (TyV w tv t) := ht
  have HSt : Hid (StV w sv s) := hs
  obtain ⟨ta, ts, tm, rfl, ha, hss, hkk⟩ := ht
  obtain ⟨ao, ac, rfl, la⟩ := ha.form
  obtain ⟨so, sc, rfl, ls⟩ := hss.form
  obtain ⟨mo, mc, rfl, lm⟩ := hkk.form
  obtain ⟨va, vd, vg, rfl, h1, h2, h3⟩ := hs
  obtain ⟨vo, vc, rfl, -, -⟩ := h1.ints
  obtain ⟨eo, ec, rfl, -, -⟩ := h2.bools
  obtain ⟨go, gc, rfl, -, -⟩ := h3.bools
  obtain ⟨x1, x2⟩ := alloc_two w (.cells #[.string ⟨t.name.toArray⟩, .slice ao t.attrs.length ac, .slice so t.stages.length sc, .slice mo t.marks.length mc] 26) (.cells #[.string ⟨s.type.toArray⟩, .slice vo s.vals.length vc, .slice eo s.done.length ec, .slice go s.got.length gc] 32)
  have hk1 : Kept (fun _ => True) w ((w.alloc (.cells #[.string ⟨t.name.toArray⟩, .slice ao t.attrs.length ac, .slice so t.stages.length sc, .slice mo t.marks.length mc] 26)).alloc (.cells #[.string ⟨s.type.toArray⟩, .slice vo s.vals.length vc, .slice eo s.done.length ec, .slice go s.got.length gc] 32)) := ((Kept.refl _ _).alloc _).alloc _
  have cs := sound_any (HTy.out.all hk1) (HSt.out.all hk1) g f
  obtain ⟨⟨y0, y1, y2, y3⟩, _⟩ := four_cell x1
  obtain ⟨⟨z0, z1, z2, z3⟩, _⟩ := four_cell x2
  have HA : Hid (Av w (.slice ao t.attrs.length ac) t.attrs) := ha
  have HS : Hid (Rv w (.slice so t.stages.length sc) t.stages) := hss
  have HM : Hid (Rv w (.slice mo t.marks.length mc) t.marks) := hkk
  have HV : Hid (Cv w (.slice vo s.vals.length vc) (iv s.vals)) := h1
  have HE : Hid (Cv w (.slice eo s.done.length ec) (bv s.done)) := h2
  have HG : Hid (Cv w (.slice go s.got.length gc) (bv s.got)) := h3
  have HTb : Hid (Tab w) := hTab
  have HF : Hid (Fit t s) := f
  have HGd : Hid (Good t) := g
  have K1 : Hid _ := hk1
  have X1 : Hid _ := x1
  have X2 : Hid _ := x2
  have HL3 : Hid ((t.name ++ (t.attrs.zip s.vals).flatMap tA ++ (t.stages.zip s.done).flatMap tS ++ (t.marks.zip s.got).flatMap tM).length ≤ 1000000) := hl
  have HL2 : Hid ((t.name ++ (t.attrs.zip s.vals).flatMap tA ++ (t.stages.zip s.done).flatMap tS).length ≤ 1000000) := by
    have := HL3.out; rw [List.length_append] at this; show _ ≤ _; omega
  have HL1 : Hid ((t.name ++ (t.attrs.zip s.vals).flatMap tA).length ≤ 1000000) := by
    have := HL2.out; rw [List.length_append] at this; show _ ≤ _; omega
  have HL0 : Hid (t.name.length ≤ 1000000) := by
    have := HL1.out; rw [List.length_append] at this; show _ ≤ _; omega
  obtain ⟨WT, hWT⟩ : ∃ WT, WT = textP t s := ⟨_, rfl⟩
  have HWT : Hid (t.name ++ (t.attrs.zip s.vals).flatMap tA ++ (t.stages.zip s.done).flatMap tS ++ (t.marks.zip s.got).flatMap tM = WT) := hWT.symm
  rw [← hWT]
  have ev : s.vals.length = t.attrs.length := f.sz.vals
  have ed : s.done.length = t.stages.length := f.sz.done
  have eg : s.got.length = t.marks.length := f.sz.got
  have EV : Hid _ := ev
  have ED : Hid _ := ed
  have EG : Hid _ := eg
  clear ha hss hkk h1 h2 h3 x1 x2 hk1 g f hTab hl hWT ev ed eg
  go_enter Tryd.func22, Tryd.ntmps22
  go_wp2_with fail
  refine Calls.mono cs ?_
  obtain ⟨B, hBB⟩ : ∃ B, B = w.heap.size := ⟨_, rfl⟩
  have HBB : Hid (B = w.heap.size) := hBB
  rw [← hBB] at X1 X2 ⊢
  clear hBB
  rintro e w2 ⟨rfl, k2⟩
  have hB1 := (k2.block _ (lt_of_block X1.out) trivial).trans X1.out
  have hB2 := (k2.block _ (lt_of_block X2.out) trivial).trans X2.out
  have K2 : Hid (Kept (fun _ => True) w w2) := K1.out.trans k2
  have ka : Kept (fun _ => True) w2 (w2.alloc (.cells #[.pointer none, .slice none 0 0] 66)) := (Kept.refl _ _).alloc _
  obtain ⟨O1, hO1⟩ : ∃ o, o = Obj.cells #[.string ⟨t.name.toArray⟩, .slice ao t.attrs.length ac, .slice so t.stages.length sc, .slice mo t.marks.length mc] 26 := ⟨_, rfl⟩
  obtain ⟨O2, hO2⟩ : ∃ o, o = Obj.cells #[.string ⟨s.type.toArray⟩, .slice vo s.vals.length vc, .slice eo s.done.length ec, .slice go s.got.length gc] 32 := ⟨_, rfl⟩
  have HO1 : Hid _ := hO1
  have HO2 : Hid _ := hO2
  have hW0 : Wq B w (w2.alloc (.cells #[.pointer none, .slice none 0 0] 66)) O1 O2 w2.heap.size [] := by
    refine ⟨HBB.out, K2.out.trans ka, ?_, ?_, .inl ⟨Nat.le_refl _, .slice none 0 0, heap_alloc_new _ _, World.ownsRowF_nil _ _ _ _, by simp [Value.ownBlock]⟩, ?_⟩
    · rw [hO1]; exact (ka.block _ (lt_of_block hB1) trivial).trans hB1
    · rw [hO2]; exact (ka.block _ (lt_of_block hB2) trivial).trans hB2
    · exact lt_of_block hB2
  have cw := writeS_any hW0.bu t.name (by have := HL0.out; simp; omega) (by have := hW0.bu.lt; omega)
  have hbx := hW0.box
  rw [hO1] at hbx
  have HW0 : Hid _ := hW0
  clear cs y0 y1 y2 y3 z0 z1 z2 z3 k2 X1 X2 K1 hB1 hB2 ka hO1 hO2 hW0
  obtain ⟨⟨y0, y1, y2, y3⟩, _⟩ := four_cell hbx
  obtain ⟨S, hS⟩ : ∃ S, S = w2.heap.size := ⟨_, rfl⟩
  rw [← hS] at cw HW0
  go_wp2_with fail
  rw [← hS]
  refine Calls.mono cw ?_
  rintro e w3 ⟨⟨r, rfl⟩, hb3, k3, _⟩
  have hW3 := HW0.out.write k3 (by simpa using hb3)
  have hbx3 := hW3.box
  rw [HO1.out] at hbx3
  have HW3 : Hid (Wq B w w3 O1 O2 S t.name) := hW3
  clear y0 y1 y2 y3 hbx cw hb3 k3 HW0 hW3 hS
  obtain ⟨⟨y0, y1, y2, y3⟩, _⟩ := four_cell hbx3
  clear hbx3
  go_wp2_with fail
  clear y0 y1 y2 y3
  go_loopw [6, 7, 22] (fun _ _ ti wr => ∃ i : Nat, i ≤ t.attrs.length ∧ ti = .int .i64 i ∧ Wq B w wr O1 O2 S (t.name ++ ((t.attrs.zip s.vals).take i).flatMap tA)) (fun _ _ ti _ => t.attrs.length - (intOf ti).toNat)
  case atStart => exact ⟨0, Nat.zero_le _, rfl, by simpa using HW3.out⟩
  case round =>
  obtain ⟨i, hi, rfl, hW⟩ := hrel
  have HW : Hid (Wq B w wr O1 O2 S (t.name ++ ((t.attrs.zip s.vals).take i).flatMap tA)) := hW
  by_cases hlt : i < t.attrs.length
  · have hv : i < s.vals.length := by rw [EV.out]; exact hlt
    obtain ⟨b, off, rfl, hb, q0, q1, q2, q3⟩ := (HA.out.all hW.kept).at i hlt
    obtain ⟨b2, off2, rfl, hb2, c00⟩ := HV.out.intAt i hv
    have c0 := (kept_cell hW.kept hb2 (o := off2 + i) trivial).trans c00
    have hb2w : b2 < wr.heap.size := Nat.lt_of_lt_of_le hb2 hW.kept.size
    have HB2 : Hid (b2 < w.heap.size) := hb2
    clear c00 hb2
    obtain ⟨hz1, hz2⟩ := zip_at hlt hv
    have HFin : Hid (t.name ++ ((t.attrs.zip s.vals).take (i + 1)).flatMap tA = t.name ++ ((t.attrs.zip s.vals).take i).flatMap tA ++ tA (t.attrs[i], s.vals[i])) := by
      show _ = _
      rw [flat_take_succ _ _ _ hz1, hz2, List.append_assoc]
    have hlen := flat_le tA t.name (t.attrs.zip s.vals) (i + 1) _ HL1.out
    rw [HFin.out] at hlen
    have hbd : -1000 ≤ s.vals[i] ∧ s.vals[i] ≤ 1000 := by
      have h1 := HF.out.within i hlt
      have h2 := HGd.out.ranges t.attrs[i] (List.getElem_mem hlt)
      simp only [List.getD_eq_getElem?_getD, hlt, hv, List.getElem?_eq_getElem, Option.getD_some, wthn, Bool.and_eq_true, decide_eq_true_eq] at h1
      omega
    have i1 : (i : Int) < (t.attrs.length : Int) := by omega
    have i2 : (i : Int) < (s.vals.length : Int) := by omega
    have i0 : (0 : Int) ≤ (i : Int) := by omega
    clear hz1 hz2 hb
    generalize t.attrs[i] = x at *
    generalize s.vals[i] = n at *
    generalize t.name ++ ((t.attrs.zip s.vals).take i).flatMap tA = pre at *
    have ka : Kept (fun _ => True) wr (wr.alloc (.cells #[.string ⟨x.name.toArray⟩, .int .i64 x.start, .int .i64 x.lo, .int .i64 x.hi] 48)) := (Kept.refl _ _).alloc _
    have hW4 := hW.all ka
    have hG := heap_alloc_new wr (.cells #[.string ⟨x.name.toArray⟩, .int .i64 x.start, .int .i64 x.lo, .int .i64 x.hi] 48)
    have c1 := (kept_cell ka hb2w (o := off2 + i) trivial).trans c0
    have hb3 : b2 < (wr.alloc (.cells #[.string ⟨x.name.toArray⟩, .int .i64 x.start, .int .i64 x.lo, .int .i64 x.hi] 48)).heap.size := Nat.lt_of_lt_of_le hb2w ka.size
    have hbx := hW4.box2
    rw [HO2.out] at hbx
    have HW4 : Hid (Wq B w (wr.alloc (.cells #[.string ⟨x.name.toArray⟩, .int .i64 x.start, .int .i64 x.lo, .int .i64 x.hi] 48)) O1 O2 S pre) := hW4
    simp only [tA, List.length_append, List.length_singleton] at hlen
    obtain ⟨ya, hya, lya, ja⟩ := text_two [32] x.name 1000000 (by simp only [List.length_singleton]; omega) (by omega)
    obtain ⟨yb, hyb, lyb, jb⟩ := text_two ya [61] 1000000 (by simp only [List.length_singleton] at lya ⊢; omega) (by omega)
    obtain ⟨yc, hyc, lyc, jc⟩ := text_two yb (Lib.itoa n) 1000000 (by simp only [List.length_singleton] at lya lyb; omega) (by omega)
    have HY : Hid (yc = tA (x, n)) := by show _ = _; rw [hyc.out, hyb.out, hya.out]; rfl
    have HYl : Hid (pre.length + yc.length ≤ 1000000) := by
      show _ ≤ _
      simp only [List.length_singleton] at lya lyb
      omega
    have HBd : Hid _ := hbd
    clear hW hW4 ka c0 hb2w hlen lya lyb lyc hya hyb hyc hbd
    go_upto_region 8 with fail
    generalize wr.alloc (.cells #[.string ⟨x.name.toArray⟩, .int .i64 x.start, .int .i64 x.lo, .int .i64 x.hi] 48) = w4 at *
    generalize wr.heap.size = G at *
    obtain ⟨⟨g0, g1, g2, g3⟩, _⟩ := four_cell hG
    obtain ⟨⟨z0, z1, z2, z3⟩, _⟩ := four_cell hbx
    have hGS : G ≠ S := by
      intro e
      have h1 := HW4.out.bu
      subst e
      rcases h1 with h1 | h1
      · obtain ⟨_, v, h2, _⟩ := h1
        rw [hG] at h2
        simp at h2
      · obtain ⟨_, v, h2, _⟩ := h1
        rw [hG] at h2
        simp at h2
    have HGS : Hid _ := hGS
    have HG4 : Hid _ := hG
    have hfar := HW4.out.far
    have hbS : b2 < S := by have := HB2.out; have := HBB.out; omega
    have hB1S : B + 1 < S := hfar
    have G0 := fun W (q : Kept (fun i => i < S ∨ i = G) w4 W) => (kept_cell q (lt_of_block hG) (Or.inr rfl)).trans g0
    have G1 := fun W (q : Kept (fun i => i < S ∨ i = G) w4 W) => (kept_cell q (lt_of_block hbx) (Or.inl hB1S)).trans z1
    have C1 := fun W (q : Kept (fun i => i < S ∨ i = G) w4 W) => (kept_cell q hb3 (Or.inl hbS)).trans c1
    have kd : Kept (fun i => i < S ∨ i = G) w4 w4.drew := (Kept.refl _ _).drew
    clear g0 g1 g2 g3 z0 z1 z2 z3 c1 hb3 hG hbx hGS hfar hbS hB1S q0 q1 q2 q3
    go_region_held3 (fun W => Kept (fun i => i < S ∨ i = G) w4 W) (assumption) (first
      | (go_at_call 33; refine Calls.mono (itoa_any n (by have := HBd.out; omega) (by have := HBd.out; omega) (HTb.out.all HW4.out.kept.drew)) ?_; rintro e w5 ⟨rfl, k5⟩; have HK5 : Hid (Kept (fun _ => True) w4 w5) := (Kept.refl _ _).drew.trans k5; have p5 : Kept (fun i => i < S ∨ i = G) w4 w5 := HK5.out.mono (fun _ _ _ => trivial); clear k5)
      | (go_at_call 32; refine Calls.mono (writeS_any (HW4.out.all HK5.out).bu yc (by have := HYl.out; omega) (by have := (HW4.out.all HK5.out).bu.lt; omega)) ?_; rintro e w6 ⟨⟨r6, rfl⟩, hb6, k6, o6⟩; have HW6 : Hid (Wq B w w6 O1 O2 S (pre ++ yc)) := (HW4.out.all HK5.out).write k6 hb6; have p6 : Kept (fun i => i < S ∨ i = G) w4 w6 := p5.trans (Kept.ofWrite k6 o6 ((HK5.out.block _ (lt_of_block HG4.out) trivial).trans HG4.out) HGS.out); clear hb6 k6 o6))
    all_goals
      have HW7 : Hid (Wq B w w6 O1 O2 S (t.name ++ ((t.attrs.zip s.vals).take (i + 1)).flatMap tA)) := by
        have := HW6.out
        rw [HY.out, ← HFin.out] at this
        exact this
      clear G0 G1 C1 kd p5 p6 ja jb jc
      go_wp2_with fail
      go_roundw
      case rel => exact ⟨i + 1, by omega, by go_num, HW7.out⟩
      case measure => simp [intOf]; omega
  · have i1 : ¬ (i : Int) < (t.attrs.length : Int) := by omega
    have HPS : Hid (Wq B w wr O1 O2 S (t.name ++ (t.attrs.zip s.vals).flatMap tA)) := by
      have := HW.out
      rw [List.take_of_length_le (by simp; omega)] at this
      exact this
    have hbx := HPS.out.box
    rw [HO1.out] at hbx
    obtain ⟨⟨y0, y1, y2, y3⟩, _⟩ := four_cell hbx
    clear hW HW hbx
    go_wp2_with fail
    clear y0 y1 y2 y3
    go_loopw [8, 9, 43] (fun _ _ ti wr => ∃ i : Nat, i ≤ t.stages.length ∧ ti = .int .i64 i ∧ Wq B w wr O1 O2 S (t.name ++ (t.attrs.zip s.vals).flatMap tA ++ ((t.stages.zip s.done).take i).flatMap tS)) (fun _ _ ti _ => t.stages.length - (intOf ti).toNat)
    case atStart => exact ⟨0, Nat.zero_le _, rfl, by simpa using HPS.out⟩
    case round =>
    obtain ⟨i, hi, rfl, hW⟩ := hrel
    have HW : Hid (Wq B w wr O1 O2 S (t.name ++ (t.attrs.zip s.vals).flatMap tA ++ ((t.stages.zip s.done).take i).flatMap tS)) := hW
    by_cases hlt : i < t.stages.length
    · have hv : i < s.done.length := by rw [ED.out]; exact hlt
      obtain ⟨b, off, rfl, hb, q0, q1⟩ := (HS.out.all hW.kept).at i hlt
      obtain ⟨b2, off2, rfl, hb2, c00⟩ := HE.out.boolAt i hv
      have c0 := (kept_cell hW.kept hb2 (o := off2 + i) trivial).trans c00
      have hb2w : b2 < wr.heap.size := Nat.lt_of_lt_of_le hb2 hW.kept.size
      obtain ⟨hz1, hz2⟩ := zip_at hlt hv
      have HFin : Hid (t.name ++ (t.attrs.zip s.vals).flatMap tA ++ ((t.stages.zip s.done).take (i + 1)).flatMap tS = t.name ++ (t.attrs.zip s.vals).flatMap tA ++ ((t.stages.zip s.done).take i).flatMap tS ++ tS (t.stages[i], s.done[i])) := by
        show _ = _
        rw [flat_take_succ _ _ _ hz1, hz2]
        simp only [List.append_assoc]
      have hlen := flat_le tS (t.name ++ (t.attrs.zip s.vals).flatMap tA) (t.stages.zip s.done) (i + 1) _ HL2.out
      rw [HFin.out] at hlen
      have i1 : (i : Int) < (t.stages.length : Int) := by omega
      have i2 : (i : Int) < (s.done.length : Int) := by omega
      have i0 : (0 : Int) ≤ (i : Int) := by omega
      clear hz1 hz2 hb c00
      generalize t.stages[i] = x at *
      generalize s.done[i] = n at *
      generalize t.name ++ (t.attrs.zip s.vals).flatMap tA ++ ((t.stages.zip s.done).take i).flatMap tS = pre at *
      have ka : Kept (fun _ => True) wr (wr.alloc (.cells #[.string ⟨x.name.toArray⟩, .string ⟨x.guard.toArray⟩] 50)) := (Kept.refl _ _).alloc _
      have hW4 := hW.all ka
      have hG := heap_alloc_new wr (.cells #[.string ⟨x.name.toArray⟩, .string ⟨x.guard.toArray⟩] 50)
      have c1 := (kept_cell ka hb2w (o := off2 + i) trivial).trans c0
      have hbx := hW4.box2
      rw [HO2.out] at hbx
      have HW4 : Hid (Wq B w (wr.alloc (.cells #[.string ⟨x.name.toArray⟩, .string ⟨x.guard.toArray⟩] 50)) O1 O2 S pre) := hW4
      obtain ⟨⟨z0, z1, z2, z3⟩, _⟩ := four_cell hbx
      clear hW hW4 ka c0 hb2 hb2w hbx
      cases n with
      | false =>
        have HQ : Hid (Wq B w (wr.alloc (.cells #[.string ⟨x.name.toArray⟩, .string ⟨x.guard.toArray⟩] 50)) O1 O2 S (t.name ++ (t.attrs.zip s.vals).flatMap tA ++ ((t.stages.zip s.done).take (i + 1)).flatMap tS)) := by
          have h4 := HW4.out
          show Wq _ _ _ _ _ _ _
          rw [HFin.out]
          simpa [tS] using h4
        clear hlen
        go_wp2_with fail
        go_roundw
        case rel => exact ⟨i + 1, by omega, by go_num, HQ.out⟩
        case measure => simp [intOf]; omega
      | true =>
        have hle2 : pre.length + ([32, 43] ++ x.name).length ≤ 1000000 := by
          have := hlen
          rw [List.length_append] at this
          simpa [tS] using this
        obtain ⟨ya, hya, lya, ja⟩ := text_two [32, 43] x.name 1000000 (by rw [← List.length_append]; omega) (by omega)
        have cw := writeS_any HW4.out.bu ya (by rw [hya.out]; omega) (by have := HW4.out.bu.lt; omega)
        have HYA : Hid (ya = tS (x, true)) := by show _ = _; rw [hya.out]; simp [tS]
        clear hlen hle2 lya hya
        go_wp2_with fail
        refine Calls.mono cw ?_
        rintro e w6 ⟨⟨r6, rfl⟩, hb6, k6, o6⟩
        have HQ : Hid (Wq B w w6 O1 O2 S (t.name ++ (t.attrs.zip s.vals).flatMap tA ++ ((t.stages.zip s.done).take (i + 1)).flatMap tS)) := by
          have := HW4.out.write k6 hb6
          rw [HYA.out, ← HFin.out] at this
          exact this
        clear cw hb6 k6 o6 z0 z1 z2 z3 c1 hG
        go_wp2_with fail
        go_roundw
        case rel => exact ⟨i + 1, by omega, by go_num, HQ.out⟩
        case measure => simp [intOf]; omega
    · have i1 : ¬ (i : Int) < (t.stages.length : Int) := by omega
      have HPM : Hid (Wq B w wr O1 O2 S (t.name ++ (t.attrs.zip s.vals).flatMap tA ++ (t.stages.zip s.done).flatMap tS)) := by
        have := HW.out
        rw [List.take_of_length_le (by simp; omega)] at this
        exact this
      have hbx := HPM.out.box
      rw [HO1.out] at hbx
      obtain ⟨⟨y0, y1, y2, y3⟩, _⟩ := four_cell hbx
      clear hW HW hbx
      go_wp2_with fail
      clear y0 y1 y2 y3
      go_loopw [10, 11, 61] (fun _ _ ti wr => ∃ i : Nat, i ≤ t.marks.length ∧ ti = .int .i64 i ∧ Wq B w wr O1 O2 S (t.name ++ (t.attrs.zip s.vals).flatMap tA ++ (t.stages.zip s.done).flatMap tS ++ ((t.marks.zip s.got).take i).flatMap tM)) (fun _ _ ti _ => t.marks.length - (intOf ti).toNat)
      case atStart => exact ⟨0, Nat.zero_le _, rfl, by simpa using HPM.out⟩
      case round =>
      obtain ⟨i, hi, rfl, hW⟩ := hrel
      have HW : Hid (Wq B w wr O1 O2 S (t.name ++ (t.attrs.zip s.vals).flatMap tA ++ (t.stages.zip s.done).flatMap tS ++ ((t.marks.zip s.got).take i).flatMap tM)) := hW
      by_cases hlt : i < t.marks.length
      · have hv : i < s.got.length := by rw [EG.out]; exact hlt
        obtain ⟨b, off, rfl, hb, q0, q1⟩ := (HM.out.all hW.kept).at i hlt
        obtain ⟨b2, off2, rfl, hb2, c00⟩ := HG.out.boolAt i hv
        have c0 := (kept_cell hW.kept hb2 (o := off2 + i) trivial).trans c00
        have hb2w : b2 < wr.heap.size := Nat.lt_of_lt_of_le hb2 hW.kept.size
        obtain ⟨hz1, hz2⟩ := zip_at hlt hv
        have HFin : Hid (t.name ++ (t.attrs.zip s.vals).flatMap tA ++ (t.stages.zip s.done).flatMap tS ++ ((t.marks.zip s.got).take (i + 1)).flatMap tM = t.name ++ (t.attrs.zip s.vals).flatMap tA ++ (t.stages.zip s.done).flatMap tS ++ ((t.marks.zip s.got).take i).flatMap tM ++ tM (t.marks[i], s.got[i])) := by
          show _ = _
          rw [flat_take_succ _ _ _ hz1, hz2]
          simp only [List.append_assoc]
        have hlen := flat_le tM (t.name ++ (t.attrs.zip s.vals).flatMap tA ++ (t.stages.zip s.done).flatMap tS) (t.marks.zip s.got) (i + 1) _ HL3.out
        rw [HFin.out] at hlen
        have i1 : (i : Int) < (t.marks.length : Int) := by omega
        have i2 : (i : Int) < (s.got.length : Int) := by omega
        have i0 : (0 : Int) ≤ (i : Int) := by omega
        clear hz1 hz2 hb c00
        generalize t.marks[i] = x at *
        generalize s.got[i] = n at *
        generalize t.name ++ (t.attrs.zip s.vals).flatMap tA ++ (t.stages.zip s.done).flatMap tS ++ ((t.marks.zip s.got).take i).flatMap tM = pre at *
        have ka : Kept (fun _ => True) wr (wr.alloc (.cells #[.string ⟨x.name.toArray⟩, .string ⟨x.guard.toArray⟩] 50)) := (Kept.refl _ _).alloc _
        have hW4 := hW.all ka
        have hG := heap_alloc_new wr (.cells #[.string ⟨x.name.toArray⟩, .string ⟨x.guard.toArray⟩] 50)
        have c1 := (kept_cell ka hb2w (o := off2 + i) trivial).trans c0
        have hbx := hW4.box2
        rw [HO2.out] at hbx
        have HW4 : Hid (Wq B w (wr.alloc (.cells #[.string ⟨x.name.toArray⟩, .string ⟨x.guard.toArray⟩] 50)) O1 O2 S pre) := hW4
        obtain ⟨⟨z0, z1, z2, z3⟩, _⟩ := four_cell hbx
        clear hW hW4 ka c0 hb2 hb2w hbx
        cases n with
        | false =>
          have HQ : Hid (Wq B w (wr.alloc (.cells #[.string ⟨x.name.toArray⟩, .string ⟨x.guard.toArray⟩] 50)) O1 O2 S (t.name ++ (t.attrs.zip s.vals).flatMap tA ++ (t.stages.zip s.done).flatMap tS ++ ((t.marks.zip s.got).take (i + 1)).flatMap tM)) := by
            have h4 := HW4.out
            show Wq _ _ _ _ _ _ _
            rw [HFin.out]
            simpa [tM] using h4
          clear hlen
          go_wp2_with fail
          go_roundw
          case rel => exact ⟨i + 1, by omega, by go_num, HQ.out⟩
          case measure => simp [intOf]; omega
        | true =>
          have hle2 : pre.length + ([32, 42] ++ x.name).length ≤ 1000000 := by
            have := hlen
            rw [List.length_append] at this
            simpa [tM] using this
          obtain ⟨ya, hya, lya, ja⟩ := text_two [32, 42] x.name 1000000 (by rw [← List.length_append]; omega) (by omega)
          have cw := writeS_any HW4.out.bu ya (by rw [hya.out]; omega) (by have := HW4.out.bu.lt; omega)
          have HYA : Hid (ya = tM (x, true)) := by show _ = _; rw [hya.out]; simp [tM]
          clear hlen hle2 lya hya
          go_wp2_with fail
          refine Calls.mono cw ?_
          rintro e w6 ⟨⟨r6, rfl⟩, hb6, k6, o6⟩
          have HQ : Hid (Wq B w w6 O1 O2 S (t.name ++ (t.attrs.zip s.vals).flatMap tA ++ (t.stages.zip s.done).flatMap tS ++ ((t.marks.zip s.got).take (i + 1)).flatMap tM)) := by
            have := HW4.out.write k6 hb6
            rw [HYA.out, ← HFin.out] at this
            exact this
          clear cw hb6 k6 o6 z0 z1 z2 z3 c1 hG
          go_wp2_with fail
          go_roundw
          case rel => exact ⟨i + 1, by omega, by go_num, HQ.out⟩
          case measure => simp [intOf]; omega
      · have i1 : ¬ (i : Int) < (t.marks.length : Int) := by omega
        have HW9 : Hid (Wq B w wr O1 O2 S (t.name ++ (t.attrs.zip s.vals).flatMap tA ++ (t.stages.zip s.done).flatMap tS ++ (t.marks.zip s.got).flatMap tM)) := by
          have := HW.out
          rw [List.take_of_length_le (by simp; omega)] at this
          exact this
        have cst := stringB_any HW9.out.bu (by have := HW9.out.bu.lt; omega)
        rw [HWT.out] at cst
        clear hW
        go_wp2_with fail
        refine Calls.mono cst ?_
        rintro e w9 ⟨rfl, k9⟩
        go_wp2_with fail
        go_ret
        refine ⟨rfl, HW9.out.kept.then ⟨k9.os, k9.tape, k9.output, k9.size, fun i _ hp => k9.block i hp⟩ (fun i hi _ => by have := HW9.out.far; have := HBB.out; show i < _; omega)⟩

end Go.Proofs.YtnddpalngjmhnabDoor

namespace Go.Proofs.YtnddpalngjmhnabDoor
open Go.RowKit

theorem itoa_small : ∀ n : Fin 2001, (Lib.itoa ((n.val : Int) - 1000)).length ≤ 5 := by decide +kernel
theorem itoa_few {n : Int} (h1 : -1000 ≤ n) (h2 : n ≤ 1000) : (Lib.itoa n).length ≤ 5 := by
  have := itoa_small ⟨(n + 1000).toNat, by omega⟩
  rwa [show (((n + 1000).toNat : Nat) : Int) - 1000 = n by omega] at this
theorem flat_few {α : Type} (f : α → List UInt8) (l : List α) (N : Nat) (h : ∀ x ∈ l, (f x).length ≤ N) : (l.flatMap f).length ≤ l.length * N := by
  induction l with
  | nil => simp
  | cons x l ih =>
    rw [List.flatMap_cons, List.length_append, List.length_cons, Nat.succ_mul]
    have h1 := h x (by simp)
    have h2 := ih (fun y hy => h y (by simp [hy]))
    omega
theorem Good.attrL {t : Ty} (h : Good t) {a : At} (ha : a ∈ t.attrs) : a.name.length ≤ 12 := h.names _ (by simp only [nms, List.mem_append, List.mem_map]; exact .inl (.inl ⟨a, ha, rfl⟩))
theorem Good.stageL {t : Ty} (h : Good t) {a : Ru} (ha : a ∈ t.stages) : a.name.length ≤ 12 := h.names _ (by simp only [nms, List.mem_append, List.mem_map]; exact .inl (.inr ⟨a, ha, rfl⟩))
theorem Good.markL {t : Ty} (h : Good t) {a : Ru} (ha : a ∈ t.marks) : a.name.length ≤ 12 := h.names _ (by simp only [nms, List.mem_append, List.mem_map]; exact .inr ⟨a, ha, rfl⟩)
/-- A right type's cases have short texts. -/
theorem text_short {t : Ty} {s : Sa} (g : Good t) (f : Fit t s) : (textP t s).length ≤ 1000000 := by
  have h1 : ((t.attrs.zip s.vals).flatMap tA).length ≤ (t.attrs.zip s.vals).length * 19 := flat_few _ _ _ fun p hp => by
    obtain ⟨k, hk, rfl⟩ := List.getElem_of_mem hp
    have hk1 : k < t.attrs.length := by simp at hk; omega
    have hk2 : k < s.vals.length := by simp at hk; omega
    have h1 := f.within k hk1
    have h2 := g.ranges t.attrs[k] (List.getElem_mem hk1)
    have h3 := g.attrL (List.getElem_mem hk1)
    simp only [List.getD_eq_getElem?_getD, hk1, hk2, List.getElem?_eq_getElem, Option.getD_some, wthn, Bool.and_eq_true, decide_eq_true_eq] at h1
    have h4 := itoa_few (n := s.vals[k]) (by omega) (by omega)
    simp only [tA, List.getElem_zip, List.length_append, List.length_singleton]
    omega
  have h2 : ((t.stages.zip s.done).flatMap tS).length ≤ (t.stages.zip s.done).length * 14 := flat_few _ _ _ fun p hp => by
    obtain ⟨k, hk, rfl⟩ := List.getElem_of_mem hp
    have hk1 : k < t.stages.length := by simp at hk; omega
    have h3 := g.stageL (List.getElem_mem hk1)
    simp only [tS, List.getElem_zip]
    split <;> simp <;> omega
  have h3 : ((t.marks.zip s.got).flatMap tM).length ≤ (t.marks.zip s.got).length * 14 := flat_few _ _ _ fun p hp => by
    obtain ⟨k, hk, rfl⟩ := List.getElem_of_mem hp
    have hk1 : k < t.marks.length := by simp at hk; omega
    have h3 := g.markL (List.getElem_mem hk1)
    simp only [tM, List.getElem_zip]
    split <;> simp <;> omega
  have := g.na; have := g.ns; have := g.nm; have := g.name
  simp only [List.length_zip] at h1 h2 h3
  simp only [textP, List.length_append]
  have : min t.attrs.length s.vals.length ≤ 6 := by omega
  have : min t.stages.length s.done.length ≤ 6 := by omega
  have : min t.marks.length s.got.length ≤ 6 := by omega
  omega

/-- Four cells of a box are written. -/
def put4 (w : World) (D : Nat) (a b c d : Value) : World := (((w.setCell ⟨D, 0, none⟩ a).setCell ⟨D, 1, none⟩ b).setCell ⟨D, 2, none⟩ c).setCell ⟨D, 3, none⟩ d
theorem put4_at {w : World} {D : Nat} {x y z u : Value} {T : TypeId} {fr : Nat × Nat} (h : w.heap[D]? = some (.cells #[x, y, z, u] T fr)) (a b c d : Value) : (put4 w D a b c d).heap[D]? = some (.cells #[a, b, c, d] T fr) := by
  have := set_cell (set_cell (set_cell (set_cell h 0 a) 1 b) 2 c) 3 d
  simpa [put4] using this
theorem put4_kept {p : Nat → Prop} {w : World} {D : Nat} (hp : ¬ p D) (a b c d : Value) : Kept p w (put4 w D a b c d) := ((((Kept.refl p w).setCell hp _).setCell hp _).setCell hp _).setCell hp _
theorem put4_new {p : Nat → Prop} {w0 w : World} {D : Nat} (h : Kept p w0 w) (hD : w0.heap.size ≤ D) (a b c d : Value) : Kept p w0 (put4 w D a b c d) := (((h.setNew hD _).setNew hD _).setNew hD _).setNew hD _
theorem put4_size (w : World) (D : Nat) (a b c d : Value) : (put4 w D a b c d).heap.size = w.heap.size := by simp [put4]
/-- The same box written in two worlds. -/
theorem put4_both {w2 w3 : World} {D : Nat} {x y z u : Value} {T : TypeId} {fr : Nat × Nat} (k : Kept (fun _ => True) w2 w3) (h : w2.heap[D]? = some (.cells #[x, y, z, u] T fr)) (a b c d : Value) : Kept (· < w2.heap.size) (put4 w2 D a b c d) (put4 w3 D a b c d) := by
  have h3 := (k.block D (lt_of_block h) trivial).trans h
  refine ⟨k.os, k.tape, k.output, ?_, fun i hi hp => ?_⟩
  · rw [put4_size, put4_size]; exact k.size
  · by_cases e : i = D
    · subst e
      rw [put4_at h, put4_at h3]
    · have k2 := (put4_kept (p := (· ≠ D)) (w := w2) (D := D) (by simp) a b c d).block i hp e
      have k3 := (put4_kept (p := (· ≠ D)) (w := w3) (D := D) (by simp) a b c d).block i (Nat.lt_of_lt_of_le hp k.size) e
      rw [k2, k3]
      exact k.block i hp trivial
theorem So.far {w w' : World} {base : Nat} {va vd vg : Value} {s : Sa} (h : So w base va vd vg s) (k : Kept (base ≤ ·) w w') : So w' base va vd vg s :=
  ⟨own_keep h.vals k (fun i e => (h.vals.lt i e).1), own_keep h.done k (fun i e => (h.done.lt i e).1), own_keep h.got k (fun i e => (h.got.lt i e).1), h.apart⟩
theorem So.lower {w : World} {base b : Nat} {va vd vg : Value} {s : Sa} (h : So w base va vd vg s) (hb : b ≤ base) : So w b va vd vg s := ⟨ownsRow_low h.vals hb, ownsRow_low h.done hb, ownsRow_low h.got hb, h.apart⟩

set_option maxRecDepth 100000 in
set_option maxHeartbeats 16000000 in
theorem apply_any {w : World} {tv sv : Value} {t : Ty} {s : Sa} (ht : TyV w tv t) (hs : StV w sv s) (g : Good t) (f : Fit t s) (hTab : Tab w) (o : Oq) :
    Calls Tryd.prog 6 #[tv, sv, opV o] w fun e w' => ∃ v, e = .returned (.tuple #[v, .string ⟨(applyP t s o).2.1.toArray⟩, .int .i64 ((applyP t s o).2.2 : Nat)]) ∧ StO w' w.heap.size v (applyP t s o).1 ∧ Kept (fun _ => True) w w' := by
  have HTy : Hid (TyV w tv t) := ht
  have HSt : Hid (StV w sv s) := hs
  obtain ⟨tx0, tn, tc, so, sn, sc, mo, mn, mc, rfl⟩ := ht.parts
  obtain ⟨va0, vd0, vg0, rfl, h1, h2, h3⟩ := hs
  obtain ⟨vo, vc, rfl, -, -⟩ := h1.ints
  obtain ⟨eo, ec, rfl, -, -⟩ := h2.bools
  obtain ⟨go, gc, rfl, -, -⟩ := h3.bools
  have hq := alloc_quad w (.cells #[.string ⟨t.name.toArray⟩, .slice tx0 tn tc, .slice so sn sc, .slice mo mn mc] 26) (.cells #[.string ⟨s.type.toArray⟩, .slice vo s.vals.length vc, .slice eo s.done.length ec, .slice go s.got.length gc] 32) (.cells #[.int .i64 o.kind, .string ⟨o.cas.toArray⟩, .string ⟨o.name.toArray⟩, .int .i64 o.n] 38) (.cells #[.string ⟨#[]⟩, .slice none 0 0, .slice none 0 0, .slice none 0 0] 32)
  obtain ⟨x1, x2, x3, x4⟩ := hq
  have hk1 : Kept (fun _ => True) w ((((w.alloc (.cells #[.string ⟨t.name.toArray⟩, .slice tx0 tn tc, .slice so sn sc, .slice mo mn mc] 26)).alloc (.cells #[.string ⟨s.type.toArray⟩, .slice vo s.vals.length vc, .slice eo s.done.length ec, .slice go s.got.length gc] 32)).alloc (.cells #[.int .i64 o.kind, .string ⟨o.cas.toArray⟩, .string ⟨o.name.toArray⟩, .int .i64 o.n] 38)).alloc (.cells #[.string ⟨#[]⟩, .slice none 0 0, .slice none 0 0, .slice none 0 0] 32)) := ((((Kept.refl _ _).alloc _).alloc _).alloc _).alloc _
  have cs := sound_any (HTy.out.all hk1) (HSt.out.all hk1) g f
  obtain ⟨⟨y0, y1, y2, y3⟩, _⟩ := four_cell (show ((((w.alloc (.cells #[.string ⟨t.name.toArray⟩, .slice tx0 tn tc, .slice so sn sc, .slice mo mn mc] 26)).alloc (.cells #[.string ⟨s.type.toArray⟩, .slice vo s.vals.length vc, .slice eo s.done.length ec, .slice go s.got.length gc] 32)).alloc (.cells #[.int .i64 o.kind, .string ⟨o.cas.toArray⟩, .string ⟨o.name.toArray⟩, .int .i64 o.n] 38)).alloc (.cells #[.string ⟨#[]⟩, .slice none 0 0, .slice none 0 0, .slice none 0 0] 32)).heap[w.heap.size]? = _ from x1)
  obtain ⟨⟨z0, z1, z2, z3⟩, _⟩ := four_cell (show ((((w.alloc (.cells #[.string ⟨t.name.toArray⟩, .slice tx0 tn tc, .slice so sn sc, .slice mo mn mc] 26)).alloc (.cells #[.string ⟨s.type.toArray⟩, .slice vo s.vals.length vc, .slice eo s.done.length ec, .slice go s.got.length gc] 32)).alloc (.cells #[.int .i64 o.kind, .string ⟨o.cas.toArray⟩, .string ⟨o.name.toArray⟩, .int .i64 o.n] 38)).alloc (.cells #[.string ⟨#[]⟩, .slice none 0 0, .slice none 0 0, .slice none 0 0] 32)).heap[w.heap.size + 1]? = _ from x2)
  have X1 : Hid _ := x1
  have X2 : Hid _ := x2
  have X3 : Hid _ := x3
  have X4 : Hid _ := x4
  have K1 : Hid _ := hk1
  have HTb : Hid (Tab w) := hTab
  have HF : Hid (Fit t s) := f
  have HGd : Hid (Good t) := g
  obtain ⟨RS, hRS⟩ : ∃ RS, RS = applyP t s o := ⟨_, rfl⟩
  have HRS : Hid (RS = applyP t s o) := hRS
  rw [← hRS]
  unfold opV
  clear h1 h2 h3 x1 x2 x3 x4 hk1 g f hTab hRS
  go_enter Tryd.func6, Tryd.ntmps6
  go_wp2_with fail
  refine Calls.mono cs ?_
  rintro e w2 ⟨rfl, k2⟩
  have hB1 := (k2.block _ (lt_of_block X1.out) trivial).trans X1.out
  have hB2 := (k2.block _ (lt_of_block X2.out) trivial).trans X2.out
  have hB3 := (k2.block _ (lt_of_block X3.out) trivial).trans X3.out
  have hB4 := (k2.block _ (lt_of_block X4.out) trivial).trans X4.out
  have K2 : Hid (Kept (fun _ => True) w w2) := K1.out.trans k2
  clear cs y0 y1 y2 y3 z0 z1 z2 z3 k2 X1 X2 X3 X4 K1
  obtain ⟨B, hB⟩ : ∃ B, B = w.heap.size := ⟨_, rfl⟩
  have HB : Hid (B = w.heap.size) := hB
  rw [← hB] at hB1 hB2 hB3 hB4 ⊢
  clear hB
  have cc := copied_any (HSt.out.all K2.out) (HF.out.few HGd.out)
  have HB1 : Hid (w2.heap[B]? = some (.cells #[.string ⟨t.name.toArray⟩, .slice tx0 tn tc, .slice so sn sc, .slice mo mn mc] 26 (0, 0))) := hB1
  have HB2 : Hid (w2.heap[B + 1]? = some (.cells #[.string ⟨s.type.toArray⟩, .slice vo s.vals.length vc, .slice eo s.done.length ec, .slice go s.got.length gc] 32 (0, 0))) := hB2
  have HB3 : Hid (w2.heap[B + 1 + 1]? = some (.cells #[.int .i64 o.kind, .string ⟨o.cas.toArray⟩, .string ⟨o.name.toArray⟩, .int .i64 o.n] 38 (0, 0))) := hB3
  have HB4 : Hid (w2.heap[B + 1 + 1 + 1]? = some (.cells #[.string ⟨#[]⟩, .slice none 0 0, .slice none 0 0, .slice none 0 0] 32 (0, 0))) := hB4
  obtain ⟨⟨z0, z1, z2, z3⟩, _⟩ := four_cell hB2
  clear hB1 hB2 hB3 hB4
  go_upto_region 3 with fail
  go_cut [] from 9 to 16 (fun wx => ∃ va vd vg, wx.heap[B + 1]? = some (.cells #[.string ⟨s.type.toArray⟩, va, vd, vg] 32 (0, 0)) ∧ So wx w2.heap.size va vd vg s ∧ Kept (· < w2.heap.size) (put4 w2 (B + 1) (.string ⟨s.type.toArray⟩) va vd vg) wx)
  case first =>
    go_wp2_with fail
    refine Calls.mono cc ?_
    rintro e w3 ⟨va, vd, vg, rfl, hso, k3⟩
    obtain ⟨vo', vc', eo', ec', go', gc', rfl, rfl, rfl⟩ := hso.shapes
    have hb := (k3.block _ (lt_of_block HB2.out) trivial).trans HB2.out
    obtain ⟨⟨q0, q1, q2, q3⟩, q4, q5, q6, q7⟩ := four_cell hb
    have HBB : Hid _ := hb
    have HSo : Hid _ := hso
    have K3 : Hid _ := k3
    clear cc z0 z1 z2 z3 hso k3 hb
    go_wp2_with fail
    go_meet
    refine ⟨_, _, _, put4_at HBB.out _ _ _ _, ?_, put4_both K3.out HB2.out _ _ _ _⟩
    exact HSo.out.far (put4_kept (p := (w2.heap.size ≤ ·)) (by have := lt_of_block HB2.out; omega) _ _ _ _)
  case rest =>
  obtain ⟨va, vd, vg, hbx, hso, kq⟩ := hcut
  clear cc z0 z1 z2 z3
  obtain ⟨W0, hW0⟩ : ∃ W0, W0 = put4 w2 (B + 1) (.string ⟨s.type.toArray⟩) va vd vg := ⟨_, rfl⟩
  have hsz : W0.heap.size = w2.heap.size := by rw [hW0, put4_size]
  rw [← hW0] at kq
  rw [← hsz] at kq hso
  have hltb := lt_of_block HB4.out
  have KW : Hid (Kept (fun _ => True) w W0) := by rw [hW0]; exact put4_new K2.out (by have := HB.out; omega) _ _ _ _
  have HTW : Hid (TyV W0 (.agg #[.string ⟨t.name.toArray⟩, .slice tx0 tn tc, .slice so sn sc, .slice mo mn mc]) t) := HTy.out.all KW.out
  have hw1 := ((put4_kept (p := (· ≠ B + 1)) (w := w2) (D := B + 1) (by simp) (.string ⟨s.type.toArray⟩) va vd vg).block B (by omega) (by omega)).trans HB1.out
  rw [← hW0] at hw1
  have hw3 := ((put4_kept (p := (· ≠ B + 1)) (w := w2) (D := B + 1) (by simp) (.string ⟨s.type.toArray⟩) va vd vg).block (B + 1 + 1) (by omega) (by omega)).trans HB3.out
  rw [← hW0] at hw3
  have hw4 := ((put4_kept (p := (· ≠ B + 1)) (w := w2) (D := B + 1) (by simp) (.string ⟨s.type.toArray⟩) va vd vg).block (B + 1 + 1 + 1) (by omega) (by omega)).trans HB4.out
  rw [← hW0] at hw4
  have hw2 : W0.heap[B + 1]? = some (.cells #[.string ⟨s.type.toArray⟩, va, vd, vg] 32 (0, 0)) := by rw [hW0]; exact put4_at HB2.out _ _ _ _
  obtain ⟨vo', vc', eo', ec', go', gc', rfl, rfl, rfl⟩ := hso.shapes
  have HW1 : Hid (W0.heap[B]? = some (.cells #[.string ⟨t.name.toArray⟩, .slice tx0 tn tc, .slice so sn sc, .slice mo mn mc] 26 (0, 0))) := hw1
  have HW2 : Hid (W0.heap[B + 1]? = some (.cells #[.string ⟨s.type.toArray⟩, .slice vo' s.vals.length vc', .slice eo' s.done.length ec', .slice go' s.got.length gc'] 32 (0, 0))) := hw2
  have HW3 : Hid (W0.heap[B + 1 + 1]? = some (.cells #[.int .i64 o.kind, .string ⟨o.cas.toArray⟩, .string ⟨o.name.toArray⟩, .int .i64 o.n] 38 (0, 0))) := hw3
  have HW4 : Hid (W0.heap[B + 1 + 1 + 1]? = some (.cells #[.string ⟨#[]⟩, .slice none 0 0, .slice none 0 0, .slice none 0 0] 32 (0, 0))) := hw4
  have HLow : Hid (∀ W, Kept (· < W0.heap.size) W0 W → W.heap[B]? = some (.cells #[.string ⟨t.name.toArray⟩, .slice tx0 tn tc, .slice so sn sc, .slice mo mn mc] 26 (0, 0)) ∧ W.heap[B + 1]? = some (.cells #[.string ⟨s.type.toArray⟩, .slice vo' s.vals.length vc', .slice eo' s.done.length ec', .slice go' s.got.length gc'] 32 (0, 0)) ∧ W.heap[B + 1 + 1]? = some (.cells #[.int .i64 o.kind, .string ⟨o.cas.toArray⟩, .string ⟨o.name.toArray⟩, .int .i64 o.n] 38 (0, 0)) ∧ W.heap[B + 1 + 1 + 1]? = some (.cells #[.string ⟨#[]⟩, .slice none 0 0, .slice none 0 0, .slice none 0 0] 32 (0, 0))) := fun W q =>
    ⟨(q.block _ (lt_of_block HW1.out) (lt_of_block HW1.out)).trans HW1.out, (q.block _ (lt_of_block HW2.out) (lt_of_block HW2.out)).trans HW2.out, (q.block _ (lt_of_block HW3.out) (lt_of_block HW3.out)).trans HW3.out, (q.block _ (lt_of_block HW4.out) (lt_of_block HW4.out)).trans HW4.out⟩
  have HSo : Hid (So wc W0.heap.size (.slice vo' s.vals.length vc') (.slice eo' s.done.length ec') (.slice go' s.got.length gc') s) := hso
  have KQ : Hid (Kept (· < W0.heap.size) W0 wc) := kq
  have HEndK : Hid (∀ W, Kept (· < W0.heap.size) W0 W → ∀ a b c d, Kept (fun _ => True) w (put4 W (B + 1 + 1 + 1) a b c d)) := fun W q a b c d => put4_new (KW.out.then q (fun i hi _ => by have := KW.out.size; show i < _; omega)) (by have := HB.out; omega) a b c d
  have HBL : Hid (B + 1 + 1 + 1 < W0.heap.size) := lt_of_block hw4
  have HBW : Hid (w.heap.size ≤ W0.heap.size) := KW.out.size
  obtain ⟨p1, p2, p3, p4⟩ := HLow.out _ kq
  obtain ⟨⟨o0, o1, o2, o3⟩, _⟩ := four_cell p3
  clear hbx hso kq hW0 hsz hltb hw1 hw2 hw3 hw4 HB1 HB2 HB3 HB4 K2 p1 p2 p3 p4
  by_cases h2 : o.kind = 2
  · have HQ : Hid (RS = fin t (setP t s o)) := by
      show _ = _
      rw [HRS.out, applyP, if_pos h2]
    rw [h2] at o0
    have ck := set_any HTW.out KQ.out HSo.out HGd.out HF.out.sz o
    unfold opV at ck
    rw [h2] at ck
    have fitR := HF.out.set o
    have HFR : Hid _ := fitR
    obtain ⟨pp, hpp⟩ : ∃ pp, pp = setP t s o := ⟨_, rfl⟩
    rw [← hpp] at ck HQ HFR
    have HTp : Hid (pp.1.type = s.type) := by
      show _ = _
      rw [HFR.out.type, HF.out.type]
    obtain ⟨p1, p2, p3, p4⟩ := HLow.out _ KQ.out
    obtain ⟨⟨y0, y1, y2, y3⟩, _⟩ := four_cell p1
    obtain ⟨⟨z0, z1, z2, z3⟩, _⟩ := four_cell p2
    obtain ⟨⟨o0', o1, o2, o3⟩, _⟩ := four_cell p3
    rw [h2] at o0'
    clear p1 p2 p3 p4 fitR hpp h2
    go_wp2_with fail
    refine Calls.mono ck ?_
    rintro e w5 ⟨rfl, hs5, k5⟩
    have HS5 : Hid _ := hs5
    have K5 : Hid (Kept (· < W0.heap.size) W0 w5) := KQ.out.trans k5
    obtain ⟨p1, p2, p3, p4⟩ := HLow.out _ K5.out
    clear ck y0 y1 y2 y3 z0 z1 z2 z3 o0 o0' o1 o2 o3 hs5 k5
    obtain ⟨⟨y0, y1, y2, y3⟩, _⟩ := four_cell p1
    obtain ⟨⟨z0, z1, z2, z3⟩, _⟩ := four_cell p2
    obtain ⟨⟨r0, r1, r2, r3⟩, _⟩ := four_cell p4
    have HP4 : Hid _ := p4
    clear p1 p2 p3 p4
    obtain ⟨s5, c5⟩ := pp
    by_cases h0 : c5 = 0
    · subst h0
      have HQ2 : Hid (RS = (settled t s5, [], 0)) := HQ.out
      have ct := settle_any HTW.out K5.out HS5.out HGd.out HFR.out.sz
      rw [show s5.type = s.type from HTp.out] at ct
      clear HQ
      go_wp2_with fail
      refine Calls.mono ct ?_
      rintro e w6 ⟨rfl, hs6, k6⟩
      have HS6 : Hid _ := hs6
      have K6 : Hid (Kept (· < W0.heap.size) W0 w6) := K5.out.trans (HS5.out.lowG k6)
      obtain ⟨p1, p2, p3, p4⟩ := HLow.out _ K6.out
      clear ct y0 y1 y2 y3 z0 z1 z2 z3 r0 r1 r2 r3 hs6 k6 HP4
      obtain ⟨⟨z0, z1, z2, z3⟩, _⟩ := four_cell p2
      obtain ⟨⟨r0, r1, r2, r3⟩, _⟩ := four_cell p4
      have HP4 : Hid _ := p4
      clear p1 p2 p3 p4
      go_wp2_with fail
      refine bodyPost_ret (results_three rfl _ _ rfl (load_state (put4_at HP4.out _ _ _ _) rfl)) rfl ?_
      rw [HQ2.out]
      refine ⟨_, rfl, ⟨.slice vo' s.vals.length vc', .slice eo' s.done.length ec', .slice go' s.got.length gc', ?_, ?_⟩, HEndK.out _ K6.out _ _ _ _⟩
      · show _ = Value.agg #[.string ⟨(settled t s5).type.toArray⟩, .slice vo' s.vals.length vc', .slice eo' s.done.length ec', .slice go' s.got.length gc']
        rw [(settled_grows t s5).type, show s5.type = s.type from HTp.out]
      · exact (HS6.out.far (put4_kept (p := (W0.heap.size ≤ ·)) (by have := HBL.out; omega) _ _ _ _)).lower HBW.out
    · have HQ2 : Hid (RS = (Sa.none, [], c5)) := HQ.out.trans (if_neg h0)
      have hc : ((c5 : Int) != 0) = true := by simp; omega
      have hc2 : ((c5 : Int) == 0) = false := by simp; omega
      clear HQ h0
      go_wp2_with fail
      refine bodyPost_ret (results_three rfl _ _ rfl (load_state (put4_at HP4.out _ _ _ _) rfl)) rfl ?_
      rw [HQ2.out]
      exact ⟨_, rfl, StO.none _ _, HEndK.out _ K5.out _ _ _ _⟩
  by_cases h3 : o.kind = 3
  · have HQ : Hid (RS = fin t (addP t s o)) := by
      show _ = _
      rw [HRS.out, applyP, if_neg h2, if_pos h3]
    rw [h3] at o0
    have ck := add_any HTW.out KQ.out HSo.out HGd.out HF.out o
    unfold opV at ck
    rw [h3] at ck
    have fitR := HF.out.add o
    have HFR : Hid _ := fitR
    obtain ⟨pp, hpp⟩ : ∃ pp, pp = addP t s o := ⟨_, rfl⟩
    rw [← hpp] at ck HQ HFR
    have HTp : Hid (pp.1.type = s.type) := by
      show _ = _
      rw [HFR.out.type, HF.out.type]
    obtain ⟨p1, p2, p3, p4⟩ := HLow.out _ KQ.out
    obtain ⟨⟨y0, y1, y2, y3⟩, _⟩ := four_cell p1
    obtain ⟨⟨z0, z1, z2, z3⟩, _⟩ := four_cell p2
    obtain ⟨⟨o0', o1, o2, o3⟩, _⟩ := four_cell p3
    rw [h3] at o0'
    clear p1 p2 p3 p4 fitR hpp h3 h2
    go_wp2_with fail
    refine Calls.mono ck ?_
    rintro e w5 ⟨rfl, hs5, k5⟩
    have HS5 : Hid _ := hs5
    have K5 : Hid (Kept (· < W0.heap.size) W0 w5) := KQ.out.trans k5
    obtain ⟨p1, p2, p3, p4⟩ := HLow.out _ K5.out
    clear ck y0 y1 y2 y3 z0 z1 z2 z3 o0 o0' o1 o2 o3 hs5 k5
    obtain ⟨⟨y0, y1, y2, y3⟩, _⟩ := four_cell p1
    obtain ⟨⟨z0, z1, z2, z3⟩, _⟩ := four_cell p2
    obtain ⟨⟨r0, r1, r2, r3⟩, _⟩ := four_cell p4
    have HP4 : Hid _ := p4
    clear p1 p2 p3 p4
    obtain ⟨s5, c5⟩ := pp
    by_cases h0 : c5 = 0
    · subst h0
      have HQ2 : Hid (RS = (settled t s5, [], 0)) := HQ.out
      have ct := settle_any HTW.out K5.out HS5.out HGd.out HFR.out.sz
      rw [show s5.type = s.type from HTp.out] at ct
      clear HQ
      go_wp2_with fail
      refine Calls.mono ct ?_
      rintro e w6 ⟨rfl, hs6, k6⟩
      have HS6 : Hid _ := hs6
      have K6 : Hid (Kept (· < W0.heap.size) W0 w6) := K5.out.trans (HS5.out.lowG k6)
      obtain ⟨p1, p2, p3, p4⟩ := HLow.out _ K6.out
      clear ct y0 y1 y2 y3 z0 z1 z2 z3 r0 r1 r2 r3 hs6 k6 HP4
      obtain ⟨⟨z0, z1, z2, z3⟩, _⟩ := four_cell p2
      obtain ⟨⟨r0, r1, r2, r3⟩, _⟩ := four_cell p4
      have HP4 : Hid _ := p4
      clear p1 p2 p3 p4
      go_wp2_with fail
      refine bodyPost_ret (results_three rfl _ _ rfl (load_state (put4_at HP4.out _ _ _ _) rfl)) rfl ?_
      rw [HQ2.out]
      refine ⟨_, rfl, ⟨.slice vo' s.vals.length vc', .slice eo' s.done.length ec', .slice go' s.got.length gc', ?_, ?_⟩, HEndK.out _ K6.out _ _ _ _⟩
      · show _ = Value.agg #[.string ⟨(settled t s5).type.toArray⟩, .slice vo' s.vals.length vc', .slice eo' s.done.length ec', .slice go' s.got.length gc']
        rw [(settled_grows t s5).type, show s5.type = s.type from HTp.out]
      · exact (HS6.out.far (put4_kept (p := (W0.heap.size ≤ ·)) (by have := HBL.out; omega) _ _ _ _)).lower HBW.out
    · have HQ2 : Hid (RS = (Sa.none, [], c5)) := HQ.out.trans (if_neg h0)
      have hc : ((c5 : Int) != 0) = true := by simp; omega
      have hc2 : ((c5 : Int) == 0) = false := by simp; omega
      clear HQ h0
      go_wp2_with fail
      refine bodyPost_ret (results_three rfl _ _ rfl (load_state (put4_at HP4.out _ _ _ _) rfl)) rfl ?_
      rw [HQ2.out]
      exact ⟨_, rfl, StO.none _ _, HEndK.out _ K5.out _ _ _ _⟩
  by_cases h4 : o.kind = 4
  · have HQ : Hid (RS = fin t (fireP t s o)) := by
      show _ = _
      rw [HRS.out, applyP, if_neg h2, if_neg h3, if_pos h4]
    rw [h4] at o0
    have ck := fire_any HTW.out KQ.out HSo.out HGd.out HF.out.sz o
    unfold opV at ck
    rw [h4] at ck
    have fitR := HF.out.fire o
    have HFR : Hid _ := fitR
    obtain ⟨pp, hpp⟩ : ∃ pp, pp = fireP t s o := ⟨_, rfl⟩
    rw [← hpp] at ck HQ HFR
    have HTp : Hid (pp.1.type = s.type) := by
      show _ = _
      rw [HFR.out.type, HF.out.type]
    obtain ⟨p1, p2, p3, p4⟩ := HLow.out _ KQ.out
    obtain ⟨⟨y0, y1, y2, y3⟩, _⟩ := four_cell p1
    obtain ⟨⟨z0, z1, z2, z3⟩, _⟩ := four_cell p2
    obtain ⟨⟨o0', o1, o2, o3⟩, _⟩ := four_cell p3
    rw [h4] at o0'
    clear p1 p2 p3 p4 fitR hpp h4 h2 h3
    go_wp2_with fail
    refine Calls.mono ck ?_
    rintro e w5 ⟨rfl, hs5, k5⟩
    have HS5 : Hid _ := hs5
    have K5 : Hid (Kept (· < W0.heap.size) W0 w5) := KQ.out.trans k5
    obtain ⟨p1, p2, p3, p4⟩ := HLow.out _ K5.out
    clear ck y0 y1 y2 y3 z0 z1 z2 z3 o0 o0' o1 o2 o3 hs5 k5
    obtain ⟨⟨y0, y1, y2, y3⟩, _⟩ := four_cell p1
    obtain ⟨⟨z0, z1, z2, z3⟩, _⟩ := four_cell p2
    obtain ⟨⟨r0, r1, r2, r3⟩, _⟩ := four_cell p4
    have HP4 : Hid _ := p4
    clear p1 p2 p3 p4
    obtain ⟨s5, c5⟩ := pp
    by_cases h0 : c5 = 0
    · subst h0
      have HQ2 : Hid (RS = (settled t s5, [], 0)) := HQ.out
      have ct := settle_any HTW.out K5.out HS5.out HGd.out HFR.out.sz
      rw [show s5.type = s.type from HTp.out] at ct
      clear HQ
      go_wp2_with fail
      refine Calls.mono ct ?_
      rintro e w6 ⟨rfl, hs6, k6⟩
      have HS6 : Hid _ := hs6
      have K6 : Hid (Kept (· < W0.heap.size) W0 w6) := K5.out.trans (HS5.out.lowG k6)
      obtain ⟨p1, p2, p3, p4⟩ := HLow.out _ K6.out
      clear ct y0 y1 y2 y3 z0 z1 z2 z3 r0 r1 r2 r3 hs6 k6 HP4
      obtain ⟨⟨z0, z1, z2, z3⟩, _⟩ := four_cell p2
      obtain ⟨⟨r0, r1, r2, r3⟩, _⟩ := four_cell p4
      have HP4 : Hid _ := p4
      clear p1 p2 p3 p4
      go_wp2_with fail
      refine bodyPost_ret (results_three rfl _ _ rfl (load_state (put4_at HP4.out _ _ _ _) rfl)) rfl ?_
      rw [HQ2.out]
      refine ⟨_, rfl, ⟨.slice vo' s.vals.length vc', .slice eo' s.done.length ec', .slice go' s.got.length gc', ?_, ?_⟩, HEndK.out _ K6.out _ _ _ _⟩
      · show _ = Value.agg #[.string ⟨(settled t s5).type.toArray⟩, .slice vo' s.vals.length vc', .slice eo' s.done.length ec', .slice go' s.got.length gc']
        rw [(settled_grows t s5).type, show s5.type = s.type from HTp.out]
      · exact (HS6.out.far (put4_kept (p := (W0.heap.size ≤ ·)) (by have := HBL.out; omega) _ _ _ _)).lower HBW.out
    · have HQ2 : Hid (RS = (Sa.none, [], c5)) := HQ.out.trans (if_neg h0)
      have hc : ((c5 : Int) != 0) = true := by simp; omega
      have hc2 : ((c5 : Int) == 0) = false := by simp; omega
      clear HQ h0
      go_wp2_with fail
      refine bodyPost_ret (results_three rfl _ _ rfl (load_state (put4_at HP4.out _ _ _ _) rfl)) rfl ?_
      rw [HQ2.out]
      exact ⟨_, rfl, StO.none _ _, HEndK.out _ K5.out _ _ _ _⟩
  by_cases h5 : o.kind = 5
  · have HQ : Hid (RS = (s, textP t s, 0)) := by
      show _ = _
      rw [HRS.out, applyP, if_neg h2, if_neg h3, if_neg h4, if_pos h5]
    rw [h5] at o0
    have hV := (HSo.out.stv (HF.out.few HGd.out))
    have HV : Hid _ := hV
    have HTc : Hid (TyV wc (.agg #[.string ⟨t.name.toArray⟩, .slice tx0 tn tc, .slice so sn sc, .slice mo mn mc]) t) := HTW.out.low KQ.out
    have HTbW : Hid (Kept (fun _ => True) w wc) := KW.out.then KQ.out (fun i hi _ => by have := KW.out.size; show i < _; omega)
    have HLen : Hid ((textP t s).length ≤ 1000000) := text_short HGd.out HF.out
    obtain ⟨TX, hTX⟩ : ∃ TX, TX = textP t s := ⟨_, rfl⟩
    have HTX : Hid (textP t s = TX) := hTX.symm
    rw [← hTX] at HQ
    have HC : Hid (∀ W, Kept (fun _ => True) wc W → Calls Tryd.prog 22 #[.agg #[.string ⟨t.name.toArray⟩, .slice tx0 tn tc, .slice so sn sc, .slice mo mn mc], .agg #[.string ⟨s.type.toArray⟩, .slice vo' s.vals.length vc', .slice eo' s.done.length ec', .slice go' s.got.length gc']] W fun e w' => e = .returned (.string ⟨TX.toArray⟩) ∧ Kept (fun _ => True) W w') := fun W q => by
      have c := text_any (HTc.out.all q) (StV.all HV.out q) HGd.out HF.out (HTb.out.all (HTbW.out.trans q)) HLen.out
      rw [HTX.out] at c
      exact c
    clear hV hTX h2 h3 h4 h5
    go_upto_region 14 with fail
    obtain ⟨p1, p2, p3, p4⟩ := HLow.out _ KQ.out
    obtain ⟨⟨y0, y1, y2, y3⟩, _⟩ := four_cell p1
    obtain ⟨⟨z0, z1, z2, z3⟩, _⟩ := four_cell p2
    have R3 : B + 1 ≠ B + 1 + 1 + 1 := by omega
    have R0 : B ≠ B + 1 + 1 + 1 := by omega
    have Y0 := fun W (q : Kept (fun i => i ≠ B + 1 + 1 + 1) wc W) => (kept_cell q (lt_of_block p1) R0).trans y0
    have Y1 := fun W (q : Kept (fun i => i ≠ B + 1 + 1 + 1) wc W) => (kept_cell q (lt_of_block p1) R0).trans y1
    have Y2 := fun W (q : Kept (fun i => i ≠ B + 1 + 1 + 1) wc W) => (kept_cell q (lt_of_block p1) R0).trans y2
    have Y3 := fun W (q : Kept (fun i => i ≠ B + 1 + 1 + 1) wc W) => (kept_cell q (lt_of_block p1) R0).trans y3
    have Z0 := fun W (q : Kept (fun i => i ≠ B + 1 + 1 + 1) wc W) => (kept_cell q (lt_of_block p2) R3).trans z0
    have Z1 := fun W (q : Kept (fun i => i ≠ B + 1 + 1 + 1) wc W) => (kept_cell q (lt_of_block p2) R3).trans z1
    have Z2 := fun W (q : Kept (fun i => i ≠ B + 1 + 1 + 1) wc W) => (kept_cell q (lt_of_block p2) R3).trans z2
    have Z3 := fun W (q : Kept (fun i => i ≠ B + 1 + 1 + 1) wc W) => (kept_cell q (lt_of_block p2) R3).trans z3
    have kd : Kept (fun i => i ≠ B + 1 + 1 + 1) wc wc.drew := (Kept.refl _ _).drew
    clear y0 y1 y2 y3 z0 z1 z2 z3 p1 p2 p3 p4 o0 o1 o2 o3 R3 R0
    have kt : Kept (fun _ => True) wc wc.drew := (Kept.refl _ _).drew
    have hd4 := (HLow.out _ KQ.out).2.2.2
    go_region_held3 (fun W => Kept (fun i => i ≠ B + 1 + 1 + 1) wc W) (first | assumption | exact Kept.setCell (Kept.setCell (Kept.setCell (Kept.setCell (by assumption) (by simp) _) (by simp) _) (by simp) _) (by simp) _) (first
      | (go_at_call 22; refine Calls.mono (HC.out _ kt) ?_; rintro e w5 ⟨rfl, k5⟩; have K5 : Hid (Kept (fun _ => True) wc w5) := Kept.trans kt k5; have p5 : Kept (fun i => i ≠ B + 1 + 1 + 1) wc w5 := K5.out.mono (fun _ _ _ => trivial); have hp4 := (K5.out.block _ (lt_of_block hd4) trivial).trans hd4; obtain ⟨⟨r0, r1, r2, r3⟩, f0, f1, f2, f3⟩ := four_cell hp4; clear k5))
    all_goals
      have K6 : Hid (Kept (· < W0.heap.size) W0 w5) := KQ.out.trans (K5.out.mono fun _ _ _ => trivial)
      have HP4 : Hid _ := hp4
      clear Y0 Y1 Y2 Y3 Z0 Z1 Z2 Z3 kd kt
      go_wp2_with fail
      refine bodyPost_ret (results_three rfl _ _ rfl (load_state (put4_at HP4.out _ _ _ _) rfl)) rfl ?_
      rw [HQ.out]
      exact ⟨_, rfl, ⟨_, _, _, rfl, ((HSo.out.all K5.out).far (put4_kept (p := (W0.heap.size ≤ ·)) (by have := HBL.out; omega) _ _ _ _)).lower HBW.out⟩, HEndK.out _ K6.out _ _ _ _⟩
  · have HQ : Hid (RS = (Sa.none, [], 1)) := by
      show _ = _
      rw [HRS.out, applyP, if_neg h2, if_neg h3, if_neg h4, if_neg h5]
    have f2 : (o.kind == 2) = false := by simpa using h2
    have f3 : (o.kind == 3) = false := by simpa using h3
    have f4 : (o.kind == 4) = false := by simpa using h4
    have f5 : (o.kind == 5) = false := by simpa using h5
    obtain ⟨p1, p2, p3, p4⟩ := HLow.out _ KQ.out
    obtain ⟨⟨r0, r1, r2, r3⟩, _⟩ := four_cell p4
    have HP4 : Hid _ := p4
    clear p1 p2 p3 p4 h2 h3 h4 h5
    go_wp2_with fail
    refine bodyPost_ret (results_three rfl _ _ rfl (load_state (put4_at HP4.out _ _ _ _) rfl)) rfl ?_
    rw [HQ.out]
    exact ⟨_, rfl, StO.none _ _, HEndK.out _ KQ.out _ _ _ _⟩

end Go.Proofs.YtnddpalngjmhnabDoor
