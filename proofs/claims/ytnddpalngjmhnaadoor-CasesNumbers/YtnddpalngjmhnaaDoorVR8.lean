/-
  The document's Apply.
-/
import Derived.Test.YtnddpalngjmhnaaDoorVR4
import Derived.Test.YtnddpalngjmhnaaDoorVR5
import Derived.Test.YtnddpalngjmhnaaDoorVR6
namespace Go.Proofs.YtnddpalngjmhnaaDoor
open Go.RowKit

/-- Where a name was found among the first i. -/
def Fd (ns : List (List UInt8)) (x : List UInt8) (i : Nat) (z : Int) : Prop := (z = -1 ∧ ∀ j (h : j < ns.length), j < i → ns[j] ≠ x) ∨ ∃ (j : Nat) (h : j < ns.length), j < i ∧ z = j ∧ ns[j] = x
theorem Fd.begin (ns : List (List UInt8)) (x : List UInt8) : Fd ns x 0 (-1) := .inl ⟨rfl, fun j _ h => (by omega)⟩
theorem Fd.hit {ns : List (List UInt8)} {x : List UInt8} {i : Nat} (h : i < ns.length) (e : ns[i] = x) : Fd ns x (i + 1) i := .inr ⟨i, h, by omega, rfl, e⟩
theorem Fd.miss {ns : List (List UInt8)} {x : List UInt8} {i : Nat} {z : Int} (h : Fd ns x i z) (hi : i < ns.length) (e : ns[i] ≠ x) : Fd ns x (i + 1) z := by
  rcases h with ⟨h1, h2⟩ | ⟨j, hj, h1, h2, h3⟩
  · refine .inl ⟨h1, fun j hj hji => ?_⟩
    rcases Nat.lt_or_ge j i with q | q
    · exact h2 j hj q
    · obtain rfl : j = i := by omega
      exact e
  · exact .inr ⟨j, hj, by omega, h2, h3⟩
theorem Fd.done {ns : List (List UInt8)} {x : List UInt8} {i : Nat} {z : Int} (h : Fd ns x i z) (hi : ns.length ≤ i) (hn : ns.Nodup) : (z = -1 ∧ spot ns x = none) ∨ ∃ k : Nat, z = k ∧ k < ns.length ∧ spot ns x = some k := by
  rcases h with ⟨h1, h2⟩ | ⟨j, hj, _, h2, h3⟩
  · exact .inl ⟨h1, spot_no fun k hk => h2 k hk (by omega)⟩
  · exact .inr ⟨j, h2, hj, spot_at hn j hj h3⟩
/-- The copy in its variable. -/
structure Aq (w2 W : World) (D : Nat) (va vd vg : Value) (x : Sa) : Prop where
  box : W.heap[D]? = some (.cells #[.string ⟨x.type.toArray⟩, va, vd, vg] 31 (0, 0))
  so : So W w2.heap.size va vd vg x
  low : Kept (· < w2.heap.size) w2 W
theorem Aq.all {w2 W W' : World} {D : Nat} {va vd vg : Value} {x : Sa} (h : Aq w2 W D va vd vg x) (k : Kept (fun _ => True) W W') : Aq w2 W' D va vd vg x :=
  ⟨(k.block D (lt_of_block h.box) trivial).trans h.box, h.so.all k, h.low.trans (k.mono fun _ _ _ => trivial)⟩
theorem Aq.setVal {w2 W : World} {D g n cap : Nat} {vd vg : Value} {x : Sa} (h : Aq w2 W D (.slice (some ⟨g, 0, none⟩) n cap) vd vg x) (hn : n = x.vals.length) (i : Nat) (b : Int) : Aq w2 (W.setCell ⟨g, i, none⟩ (.int .i64 b)) D (.slice (some ⟨g, 0, none⟩) n cap) vd vg { x with vals := x.vals.set i b } := by
  obtain ⟨s1, s2⟩ := h.so.setVal hn i b
  have hne := own_off h.so.vals h.box (by decide)
  have k : Kept (· ≠ g) W (W.setCell ⟨g, i, none⟩ (.int .i64 b)) := (Kept.refl _ _).setCell (by simp) _
  exact ⟨(k.block D (lt_of_block h.box) (fun e => hne (by rw [e]; rfl))).trans h.box, s1, h.low.trans s2⟩
theorem Aq.setDone {w2 W : World} {D g n cap : Nat} {va vg : Value} {x : Sa} (h : Aq w2 W D va (.slice (some ⟨g, 0, none⟩) n cap) vg x) (hn : n = x.done.length) (i : Nat) (b : Bool) : Aq w2 (W.setCell ⟨g, i, none⟩ (.bool b)) D va (.slice (some ⟨g, 0, none⟩) n cap) vg { x with done := x.done.set i b } := by
  obtain ⟨s1, s2⟩ := h.so.setDone hn i b
  have hne := own_off h.so.done h.box (by decide)
  have k : Kept (· ≠ g) W (W.setCell ⟨g, i, none⟩ (.bool b)) := (Kept.refl _ _).setCell (by simp) _
  exact ⟨(k.block D (lt_of_block h.box) (fun e => hne (by rw [e]; rfl))).trans h.box, s1, h.low.trans s2⟩

theorem Av.low' {w w' : World} {v : Value} {xs : List At} (h : Av w v xs) (k : Kept (· < w.heap.size) w w') : Av w' v xs := by
  obtain ⟨a1, a2, a3, a4, a5, a6⟩ := h
  refine ⟨a1, a2, a3, a4, a5, fun h0 => ?_⟩
  obtain ⟨b, off, e, hb, hc⟩ := a6 h0
  refine ⟨b, off, e, Nat.lt_of_lt_of_le hb k.size, fun i hi => ?_⟩
  simp only [kept_cell k hb hb]
  exact hc i hi
theorem Rv.low' {w w' : World} {v : Value} {xs : List Ru} (h : Rv w v xs) (k : Kept (· < w.heap.size) w w') : Rv w' v xs := by
  obtain ⟨a1, a2, a3, a4, a5, a6⟩ := h
  refine ⟨a1, a2, a3, a4, a5, fun h0 => ?_⟩
  obtain ⟨b, off, e, hb, hc⟩ := a6 h0
  refine ⟨b, off, e, Nat.lt_of_lt_of_le hb k.size, fun i hi => ?_⟩
  simp only [kept_cell k hb hb]
  exact hc i hi
theorem Cv.low' {w w' : World} {v : Value} {xs : List Value} (h : Cv w v xs) (k : Kept (· < w.heap.size) w w') : Cv w' v xs := h.kept k (fun _ h => h)

set_option maxRecDepth 100000 in
set_option maxHeartbeats 16000000 in
theorem rapply_any {w : World} {tv sv : Value} {t : Ty} {s : Sa} (ht : TyV w tv t) (hs : StV w sv s) (g : Good t) (f : Fit t s) (o : Oq) :
    Calls Tryd.prog 18 #[tv, sv, opV o] w fun e w' => ∃ v, e = .returned (.tuple #[v, .string ⟨(applyP t s o).2.1.toArray⟩, .int .i64 ((applyP t s o).2.2 : Nat)]) ∧ StO w' w.heap.size v (applyP t s o).1 ∧ Kept (fun _ => True) w w' := by
  have HTy : Hid (TyV w tv t) := ht
  have HSt : Hid (StV w sv s) := hs
  obtain ⟨ta, ts, tm, rfl, ha, hss, hkk⟩ := ht
  obtain ⟨ao, ac, rfl, la⟩ := ha.form
  obtain ⟨so, sc, rfl, ls⟩ := hss.form
  obtain ⟨mo, mc, rfl, lm⟩ := hkk.form
  obtain ⟨va0, vd0, vg0, rfl, h1, h2, h3⟩ := hs
  obtain ⟨vo, vc, rfl, -, -⟩ := h1.ints
  obtain ⟨eo, ec, rfl, -, -⟩ := h2.bools
  obtain ⟨go, gc, rfl, -, -⟩ := h3.bools
  obtain ⟨x1, x2, x3, x4⟩ := alloc_quad w (.cells #[.string ⟨t.name.toArray⟩, .slice ao t.attrs.length ac, .slice so t.stages.length sc, .slice mo t.marks.length mc] 25) (.cells #[.string ⟨s.type.toArray⟩, .slice vo s.vals.length vc, .slice eo s.done.length ec, .slice go s.got.length gc] 31) (.cells #[.int .i64 o.kind, .string ⟨o.cas.toArray⟩, .string ⟨o.name.toArray⟩, .int .i64 o.n] 34) (.cells #[.string ⟨#[]⟩, .slice none 0 0, .slice none 0 0, .slice none 0 0] 31)
  have hk1 : Kept (fun _ => True) w ((((w.alloc (.cells #[.string ⟨t.name.toArray⟩, .slice ao t.attrs.length ac, .slice so t.stages.length sc, .slice mo t.marks.length mc] 25)).alloc (.cells #[.string ⟨s.type.toArray⟩, .slice vo s.vals.length vc, .slice eo s.done.length ec, .slice go s.got.length gc] 31)).alloc (.cells #[.int .i64 o.kind, .string ⟨o.cas.toArray⟩, .string ⟨o.name.toArray⟩, .int .i64 o.n] 34)).alloc (.cells #[.string ⟨#[]⟩, .slice none 0 0, .slice none 0 0, .slice none 0 0] 31)) := ((((Kept.refl _ _).alloc _).alloc _).alloc _).alloc _
  have X1 : Hid (((((w.alloc (.cells #[.string ⟨t.name.toArray⟩, .slice ao t.attrs.length ac, .slice so t.stages.length sc, .slice mo t.marks.length mc] 25)).alloc (.cells #[.string ⟨s.type.toArray⟩, .slice vo s.vals.length vc, .slice eo s.done.length ec, .slice go s.got.length gc] 31)).alloc (.cells #[.int .i64 o.kind, .string ⟨o.cas.toArray⟩, .string ⟨o.name.toArray⟩, .int .i64 o.n] 34)).alloc (.cells #[.string ⟨#[]⟩, .slice none 0 0, .slice none 0 0, .slice none 0 0] 31)).heap[w.heap.size]? = some (.cells #[.string ⟨t.name.toArray⟩, .slice ao t.attrs.length ac, .slice so t.stages.length sc, .slice mo t.marks.length mc] 25 (0, 0))) := x1
  have X2 : Hid (((((w.alloc (.cells #[.string ⟨t.name.toArray⟩, .slice ao t.attrs.length ac, .slice so t.stages.length sc, .slice mo t.marks.length mc] 25)).alloc (.cells #[.string ⟨s.type.toArray⟩, .slice vo s.vals.length vc, .slice eo s.done.length ec, .slice go s.got.length gc] 31)).alloc (.cells #[.int .i64 o.kind, .string ⟨o.cas.toArray⟩, .string ⟨o.name.toArray⟩, .int .i64 o.n] 34)).alloc (.cells #[.string ⟨#[]⟩, .slice none 0 0, .slice none 0 0, .slice none 0 0] 31)).heap[w.heap.size + 1]? = some (.cells #[.string ⟨s.type.toArray⟩, .slice vo s.vals.length vc, .slice eo s.done.length ec, .slice go s.got.length gc] 31 (0, 0))) := x2
  have X3 : Hid (((((w.alloc (.cells #[.string ⟨t.name.toArray⟩, .slice ao t.attrs.length ac, .slice so t.stages.length sc, .slice mo t.marks.length mc] 25)).alloc (.cells #[.string ⟨s.type.toArray⟩, .slice vo s.vals.length vc, .slice eo s.done.length ec, .slice go s.got.length gc] 31)).alloc (.cells #[.int .i64 o.kind, .string ⟨o.cas.toArray⟩, .string ⟨o.name.toArray⟩, .int .i64 o.n] 34)).alloc (.cells #[.string ⟨#[]⟩, .slice none 0 0, .slice none 0 0, .slice none 0 0] 31)).heap[w.heap.size + 1 + 1]? = some (.cells #[.int .i64 o.kind, .string ⟨o.cas.toArray⟩, .string ⟨o.name.toArray⟩, .int .i64 o.n] 34 (0, 0))) := x3
  have X4 : Hid (((((w.alloc (.cells #[.string ⟨t.name.toArray⟩, .slice ao t.attrs.length ac, .slice so t.stages.length sc, .slice mo t.marks.length mc] 25)).alloc (.cells #[.string ⟨s.type.toArray⟩, .slice vo s.vals.length vc, .slice eo s.done.length ec, .slice go s.got.length gc] 31)).alloc (.cells #[.int .i64 o.kind, .string ⟨o.cas.toArray⟩, .string ⟨o.name.toArray⟩, .int .i64 o.n] 34)).alloc (.cells #[.string ⟨#[]⟩, .slice none 0 0, .slice none 0 0, .slice none 0 0] 31)).heap[w.heap.size + 1 + 1 + 1]? = some (.cells #[.string ⟨#[]⟩, .slice none 0 0, .slice none 0 0, .slice none 0 0] 31 (0, 0))) := x4
  have K2 : Hid _ := hk1
  have HT2 : Hid (TyV _ (.agg #[.string ⟨t.name.toArray⟩, .slice ao t.attrs.length ac, .slice so t.stages.length sc, .slice mo t.marks.length mc]) t) := HTy.out.all hk1
  have HS2 : Hid (StV _ (.agg #[.string ⟨s.type.toArray⟩, .slice vo s.vals.length vc, .slice eo s.done.length ec, .slice go s.got.length gc]) s) := HSt.out.all hk1
  have HA : Hid (Av _ (.slice ao t.attrs.length ac) t.attrs) := ha.all hk1
  have HR : Hid (Rv _ (.slice so t.stages.length sc) t.stages) := hss.all hk1
  have HV : Hid (Cv _ (.slice vo s.vals.length vc) (iv s.vals)) := h1.all hk1
  have HE : Hid (Cv _ (.slice eo s.done.length ec) (bv s.done)) := h2.all hk1
  have HF : Hid (Fit t s) := f
  have HGd : Hid (Good t) := g
  have hna := g.na
  have hns := g.ns
  have hvl : s.vals.length ≤ 6 := by rw [f.sz.vals]; exact hna
  have hdl : s.done.length ≤ 6 := by rw [f.sz.done]; exact hns
  obtain ⟨RS, hRS⟩ : ∃ RS, RS = applyP t s o := ⟨_, rfl⟩
  have HRS : Hid (RS = applyP t s o) := hRS
  rw [← hRS]
  unfold opV
  clear ha hss hkk h1 h2 h3 x1 x2 x3 x4 hk1 g f hRS HTy HSt
  go_enter Tryd.func18, Tryd.ntmps18
  go_upto_region 1 with fail
  generalize (((w.alloc (.cells #[.string ⟨t.name.toArray⟩, .slice ao t.attrs.length ac, .slice so t.stages.length sc, .slice mo t.marks.length mc] 25)).alloc (.cells #[.string ⟨s.type.toArray⟩, .slice vo s.vals.length vc, .slice eo s.done.length ec, .slice go s.got.length gc] 31)).alloc (.cells #[.int .i64 o.kind, .string ⟨o.cas.toArray⟩, .string ⟨o.name.toArray⟩, .int .i64 o.n] 34)).alloc (.cells #[.string ⟨#[]⟩, .slice none 0 0, .slice none 0 0, .slice none 0 0] 31) = w2 at *
  obtain ⟨B, hB⟩ : ∃ B, B = w.heap.size := ⟨_, rfl⟩
  have HB : Hid (B = w.heap.size) := hB
  rw [← hB] at X1 X2 X3 X4 ⊢
  clear hB
  have HLow : Hid (∀ W, Kept (· < w2.heap.size) w2 W → W.heap[B]? = some (.cells #[.string ⟨t.name.toArray⟩, .slice ao t.attrs.length ac, .slice so t.stages.length sc, .slice mo t.marks.length mc] 25 (0, 0)) ∧ W.heap[B + 1]? = some (.cells #[.string ⟨s.type.toArray⟩, .slice vo s.vals.length vc, .slice eo s.done.length ec, .slice go s.got.length gc] 31 (0, 0)) ∧ W.heap[B + 1 + 1]? = some (.cells #[.int .i64 o.kind, .string ⟨o.cas.toArray⟩, .string ⟨o.name.toArray⟩, .int .i64 o.n] 34 (0, 0)) ∧ W.heap[B + 1 + 1 + 1]? = some (.cells #[.string ⟨#[]⟩, .slice none 0 0, .slice none 0 0, .slice none 0 0] 31 (0, 0))) := fun W q =>
    ⟨(q.block _ (lt_of_block X1.out) (lt_of_block X1.out)).trans X1.out, (q.block _ (lt_of_block X2.out) (lt_of_block X2.out)).trans X2.out, (q.block _ (lt_of_block X3.out) (lt_of_block X3.out)).trans X3.out, (q.block _ (lt_of_block X4.out) (lt_of_block X4.out)).trans X4.out⟩
  have HEndK : Hid (∀ W, Kept (· < w2.heap.size) w2 W → ∀ a b c d, Kept (fun _ => True) w (put4 W (B + 1 + 1 + 1) a b c d)) := fun W q a b c d => put4_new (K2.out.then q (fun i hi _ => by have := K2.out.size; show i < _; omega)) (by have := HB.out; omega) a b c d
  have HBL : Hid (B + 1 + 1 + 1 < w2.heap.size) := lt_of_block X4.out
  have HBW : Hid (w.heap.size ≤ w2.heap.size) := K2.out.size
  have cc := rcopy_any HS2.out (HF.out.few HGd.out)
  have hX2 := X2.out
  obtain ⟨⟨z0, z1, z2, z3⟩, _⟩ := four_cell hX2
  clear hX2
  go_wp2_with fail
  refine Calls.mono cc ?_
  rintro e w3 ⟨va, vd, vg, rfl, hso, k3⟩
  obtain ⟨vo', vc', eo', ec', go', gc', rfl, rfl, rfl⟩ := hso.shapes
  have ka : Kept (fun _ => True) w3 (w3.alloc (.cells #[.string ⟨s.type.toArray⟩, .slice vo' s.vals.length vc', .slice eo' s.done.length ec', .slice go' s.got.length gc'] 31)) := (Kept.refl _ _).alloc _
  have HAq0 : Hid (Aq w2 (w3.alloc (.cells #[.string ⟨s.type.toArray⟩, .slice vo' s.vals.length vc', .slice eo' s.done.length ec', .slice go' s.got.length gc'] 31)) w3.heap.size (.slice vo' s.vals.length vc') (.slice eo' s.done.length ec') (.slice go' s.got.length gc') s) := ⟨heap_alloc_new _ _, hso.all ka, (k3.trans ka).mono fun _ _ _ => trivial⟩
  have HDl : Hid (w2.heap.size ≤ w3.heap.size) := k3.size
  clear cc z0 z1 z2 z3 hso k3 ka
  go_upto_region 2 with fail
  generalize w3.alloc (.cells #[.string ⟨s.type.toArray⟩, .slice vo' s.vals.length vc', .slice eo' s.done.length ec', .slice go' s.got.length gc'] 31) = w4 at *
  generalize w3.heap.size = D at *
  obtain ⟨p1, p2, p3, p4⟩ := HLow.out _ HAq0.out.low
  obtain ⟨⟨y0, y1, y2, y3⟩, _⟩ := four_cell p1
  obtain ⟨⟨o0, o1, o2, o3⟩, _⟩ := four_cell p3
  clear p1 p2 p3 p4
  by_cases h5 : o.kind = 5
  · have HQ : Hid (RS = (s, textP t s, 0)) := by
      show _ = _
      rw [HRS.out, applyP, if_neg (by omega), if_neg (by omega), if_neg (by omega), if_pos h5]
    have HC : Hid (∀ W, Kept (fun _ => True) w4 W → Calls Tryd.prog 25 #[.agg #[.string ⟨t.name.toArray⟩, .slice ao t.attrs.length ac, .slice so t.stages.length sc, .slice mo t.marks.length mc], .agg #[.string ⟨s.type.toArray⟩, .slice vo s.vals.length vc, .slice eo s.done.length ec, .slice go s.got.length gc]] W fun e w' => e = .returned (.string ⟨(textP t s).toArray⟩) ∧ Kept (fun _ => True) W w') := fun W q => by
      have k : Kept (· < w2.heap.size) w2 W := (HAq0.out.all q).low
      exact rtext_any (HT2.out.low k) (StV.low HS2.out k) HGd.out HF.out
    generalize textP t s = TX at *
    have hB1 := (HLow.out _ HAq0.out.low).1
    have hB2 := (HLow.out _ HAq0.out.low).2.1
    have hd4 := (HLow.out _ HAq0.out.low).2.2.2
    have hDb := HAq0.out.box
    rw [h5] at o0
    clear h5
    go_upto_region 5 with fail
    obtain ⟨⟨z0, z1, z2, z3⟩, _⟩ := four_cell hB2
    obtain ⟨⟨d0, d1, d2, d3⟩, _⟩ := four_cell hDb
    have R0 : B ≠ B + 1 + 1 + 1 := by omega
    have R1 : B + 1 ≠ B + 1 + 1 + 1 := by omega
    have R3 : D ≠ B + 1 + 1 + 1 := fun e => by
      have h1 := HAq0.out.low.size
      have h2 := HDl.out
      have h3 := HBL.out
      omega
    have Y0' := fun W (q : Kept (fun i => i ≠ B + 1 + 1 + 1) w4 W) => (kept_cell q (lt_of_block hB1) R0).trans y0
    have Y1' := fun W (q : Kept (fun i => i ≠ B + 1 + 1 + 1) w4 W) => (kept_cell q (lt_of_block hB1) R0).trans y1
    have Y2' := fun W (q : Kept (fun i => i ≠ B + 1 + 1 + 1) w4 W) => (kept_cell q (lt_of_block hB1) R0).trans y2
    have Y3' := fun W (q : Kept (fun i => i ≠ B + 1 + 1 + 1) w4 W) => (kept_cell q (lt_of_block hB1) R0).trans y3
    have Z0' := fun W (q : Kept (fun i => i ≠ B + 1 + 1 + 1) w4 W) => (kept_cell q (lt_of_block hB2) R1).trans z0
    have Z1' := fun W (q : Kept (fun i => i ≠ B + 1 + 1 + 1) w4 W) => (kept_cell q (lt_of_block hB2) R1).trans z1
    have Z2' := fun W (q : Kept (fun i => i ≠ B + 1 + 1 + 1) w4 W) => (kept_cell q (lt_of_block hB2) R1).trans z2
    have Z3' := fun W (q : Kept (fun i => i ≠ B + 1 + 1 + 1) w4 W) => (kept_cell q (lt_of_block hB2) R1).trans z3
    have X0' := fun W (q : Kept (fun i => i ≠ B + 1 + 1 + 1) w4 W) => (kept_cell q (lt_of_block hDb) R3).trans d0
    have X1' := fun W (q : Kept (fun i => i ≠ B + 1 + 1 + 1) w4 W) => (kept_cell q (lt_of_block hDb) R3).trans d1
    have X2' := fun W (q : Kept (fun i => i ≠ B + 1 + 1 + 1) w4 W) => (kept_cell q (lt_of_block hDb) R3).trans d2
    have X3' := fun W (q : Kept (fun i => i ≠ B + 1 + 1 + 1) w4 W) => (kept_cell q (lt_of_block hDb) R3).trans d3
    have kd : Kept (fun i => i ≠ B + 1 + 1 + 1) w4 w4.drew := (Kept.refl _ _).drew
    have kt : Kept (fun _ => True) w4 w4.drew := (Kept.refl _ _).drew
    clear y0 y1 y2 y3 z0 z1 z2 z3 d0 d1 d2 d3 o0 o1 o2 o3 hB1 hB2 hDb R0 R1 R3
    go_region_held3 (fun W => Kept (fun i => i ≠ B + 1 + 1 + 1) w4 W) (first | assumption | exact Kept.setCell (Kept.setCell (Kept.setCell (Kept.setCell (by assumption) (by simp) _) (by simp) _) (by simp) _) (by simp) _) (first
      | (go_at_call 25; refine Calls.mono (HC.out _ kt) ?_; rintro e w5 ⟨rfl, k5⟩; have K5 : Hid (Kept (fun _ => True) w4 w5) := Kept.trans kt k5; have p5 : Kept (fun i => i ≠ B + 1 + 1 + 1) w4 w5 := K5.out.mono (fun _ _ _ => trivial); have hp4 := (K5.out.block _ (lt_of_block hd4) trivial).trans hd4; obtain ⟨⟨r0, r1, r2, r3⟩, f0, f1, f2, f3⟩ := four_cell hp4; clear k5))
    all_goals
      have HA5 : Hid _ := HAq0.out.all K5.out
      have HP4 : Hid _ := hp4
      clear Y0' Y1' Y2' Y3' Z0' Z1' Z2' Z3' X0' X1' X2' X3' kd kt
      go_wp2_with fail
      refine bodyPost_ret (results_three rfl _ _ rfl (load_state (put4_at HP4.out _ _ _ _) rfl)) rfl ?_
      rw [HQ.out]
      exact ⟨_, rfl, ⟨_, _, _, rfl, (HA5.out.so.far (put4_kept (p := (w2.heap.size ≤ ·)) (by have := HBL.out; omega) _ _ _ _)).lower HBW.out⟩, HEndK.out _ HA5.out.low _ _ _ _⟩
  have f5 : (o.kind == 5) = false := by simpa using h5
  by_cases h2 : o.kind = 2
  · have HQ : Hid (RS = fin t (setK t s o (spot (t.attrs.map At.name) o.name))) := by
      show _ = _
      rw [HRS.out, applyP, if_pos h2]
      rfl
    have f0 : (o.kind == 2) = true := by simpa using h2
    rw [h2] at o0
    go_wp2_with fail
    clear y0 y1 y2 y3 o0 o1 o2 o3
    go_loopw [10, 11] (fun tk ti wr => ∃ (i : Nat) (z : Int), i ≤ t.attrs.length ∧ ti = .int .i64 i ∧ tk = .int .i64 z ∧ Fd (t.attrs.map At.name) o.name i z ∧ Kept (fun _ => True) w4 wr) (fun _ ti _ => t.attrs.length - (intOf ti).toNat)
    case atStart => exact ⟨0, -1, Nat.zero_le _, rfl, rfl, Fd.begin _ _, Kept.refl _ _⟩
    case round =>
    obtain ⟨i, z, hi, rfl, rfl, hfd, hk⟩ := hrel
    have HFd : Hid (Fd (t.attrs.map At.name) o.name i z) := hfd
    have HKr : Hid (Kept (fun _ => True) w4 wr) := hk
    have HAq : Hid (Aq w2 wr D (.slice vo' s.vals.length vc') (.slice eo' s.done.length ec') (.slice go' s.got.length gc') s) := HAq0.out.all hk
    obtain ⟨p1, p2, p3, p4⟩ := HLow.out _ HAq.out.low
    obtain ⟨⟨y0, y1, y2, y3⟩, _⟩ := four_cell p1
    obtain ⟨⟨o0, o1, o2, o3⟩, _⟩ := four_cell p3
    rw [h2] at o0
    clear p1 p2 p3 p4 hfd hk
    by_cases hlt : i < t.attrs.length
    · obtain ⟨hm1, hm2⟩ := name_at hlt
      obtain ⟨b, off, rfl, hb, q0, _⟩ := (HA.out.low' HAq.out.low).at i hlt
      have i1 : (i : Int) < (t.attrs.length : Int) := by omega
      have i0 : (0 : Int) ≤ (i : Int) := by omega
      clear hb
      by_cases hx : (t.attrs[i]).name = o.name
      · have hx' : ((t.attrs[i]).name == o.name) = true := by simpa using hx
        have HN : Hid _ := Fd.hit hm1 (hm2.trans hx)
        clear hx hm1 hm2
        generalize t.attrs[i] = x at *
        go_wp2_with fail
        go_quiet (fail)
        go_wp2_with fail
        go_roundw
        case rel => exact ⟨i + 1, _, by omega, by go_num, rfl, HN.out, HKr.out.drewN _⟩
        case measure => simp [intOf]; omega
      · have hx' : ((t.attrs[i]).name == o.name) = false := by simpa using hx
        have HN : Hid _ := HFd.out.miss hm1 (by rw [hm2]; exact hx)
        clear hx hm1 hm2
        generalize t.attrs[i] = x at *
        go_wp2_with fail
        go_quiet (fail)
        go_wp2_with fail
        go_roundw
        case rel => exact ⟨i + 1, z, by omega, by go_num, rfl, HN.out, HKr.out.drewN _⟩
        case measure => simp [intOf]; omega
    have i1 : ¬ (i : Int) < (t.attrs.length : Int) := by omega
    have hdone := HFd.out.done (by rw [List.length_map]; omega) HGd.out.attrN
    clear HFd
    have hP4 := (HLow.out wr HAq.out.low).2.2.2
    obtain ⟨⟨r0, r1, r2, r3⟩, _⟩ := four_cell hP4
    have HP4 : Hid _ := hP4
    clear hP4
    rcases hdone with ⟨rfl, hsp⟩ | ⟨k, rfl, hk, hsp⟩
    · have HQ2 : Hid (RS = (Sa.none, [], 31)) := by
        show _ = _
        rw [HQ.out, hsp]
        rfl
      clear hsp
      go_wp2_with fail
      refine bodyPost_ret (results_three rfl _ _ rfl (load_state (put4_at HP4.out _ _ _ _) rfl)) rfl ?_
      rw [HQ2.out]
      exact ⟨_, rfl, StO.none _ _, HEndK.out _ HAq.out.low _ _ _ _⟩
    · have hka : k < t.attrs.length := by simpa using hk
      have hks : k < s.vals.length := by rw [HF.out.sz.vals]; exact hka
      obtain ⟨b, off, rfl, hb, q0, q1, q2, q3⟩ := (HA.out.low' HAq.out.low).at k hka
      have hge : t.attrs.getD k At.nil = t.attrs[k] := by simp [List.getD_eq_getElem?_getD, hka]
      have k1 : (k : Int) < (t.attrs.length : Int) := by omega
      have k2 : (k : Int) < (s.vals.length : Int) := by omega
      have k0 : (0 : Int) ≤ (k : Int) := by omega
      clear hb hk
      have HQ3 : Hid (RS = fin t (putP t s k o.n)) := by
        show _ = _
        rw [HQ.out, hsp]
        rfl
      clear hsp
      obtain ⟨N, hN⟩ : ∃ N, N = o.n := ⟨_, rfl⟩
      rw [← hN] at HQ3 o3 ⊢
      clear hN
      by_cases l1 : N < (t.attrs[k]).lo
      · have HQ2 : Hid (RS = (Sa.none, [], 34)) := by
          show _ = _
          rw [HQ3.out, putP, if_neg (by rw [hge]; simp only [wthn, Bool.and_eq_true, decide_eq_true_eq]; omega)]
          rfl
        clear hge
        generalize t.attrs[k] = x at *
        go_wp2_with fail
        refine bodyPost_ret (results_three rfl _ _ rfl (load_state (put4_at HP4.out _ _ _ _) rfl)) rfl ?_
        rw [HQ2.out]
        exact ⟨_, rfl, StO.none _ _, HEndK.out _ HAq.out.low _ _ _ _⟩
      · by_cases l2 : (t.attrs[k]).hi < N
        · have HQ2 : Hid (RS = (Sa.none, [], 34)) := by
            show _ = _
            rw [HQ3.out, putP, if_neg (by rw [hge]; simp only [wthn, Bool.and_eq_true, decide_eq_true_eq]; omega)]
            rfl
          clear hge
          generalize t.attrs[k] = x at *
          go_wp2_with fail
          refine bodyPost_ret (results_three rfl _ _ rfl (load_state (put4_at HP4.out _ _ _ _) rfl)) rfl ?_
          rw [HQ2.out]
          exact ⟨_, rfl, StO.none _ _, HEndK.out _ HAq.out.low _ _ _ _⟩
        · have HQ2 : Hid (RS = (settled t { s with vals := s.vals.set k N }, [], 0)) := by
            show _ = _
            rw [HQ3.out, putP, if_pos (by rw [hge]; simp only [wthn, Bool.and_eq_true, decide_eq_true_eq]; omega)]
            rfl
          have hrow := HAq.out.so.vals
          obtain ⟨g, rfl⟩ : ∃ g, vo' = some ⟨g, 0, none⟩ := by
            obtain ⟨ao', cap', e, _, _, h0⟩ := own_form hrow
            cases e
            exact h0 (by omega)
          have c0 := hrow.cellAt k (by omega)
          rw [show (iv s.vals)[k]? = some (.int .i64 s.vals[k]) by simp [iv, hks]] at c0
          have f0 := hrow.frozenAt k
          have HA6 : Hid (Aq w2 (wr.setCell ⟨g, k, none⟩ (.int .i64 N)) D (.slice (some ⟨g, 0, none⟩) s.vals.length vc') (.slice eo' s.done.length ec') (.slice go' s.got.length gc') { s with vals := s.vals.set k N }) := HAq.out.setVal rfl k N
          have HSz : Hid (Sized t { s with vals := s.vals.set k N }) := ⟨by simpa using HF.out.sz.vals, HF.out.sz.done, HF.out.sz.got⟩
          have hDb := HAq.out.box
          obtain ⟨⟨d0, d1, d2, d3⟩, _⟩ := four_cell hDb
          clear hge hrow hDb
          generalize t.attrs[k] = x at *
          generalize s.vals[k] = old at *
          go_upto_region 34 with fail
          clear y0 y1 y2 y3 d0 d1 d2 d3 o0 o1 o2 o3 c0 f0 r0 r1 r2 r3 HP4
          generalize wr.setCell ⟨g, k, none⟩ (.int .i64 N) = w5 at *
          have ct := rsettle_any HT2.out HA6.out.low HA6.out.so HGd.out HSz.out
          have hDb := HA6.out.box
          obtain ⟨p1, p2, p3, p4⟩ := HLow.out _ HA6.out.low
          obtain ⟨⟨y0, y1, y2, y3⟩, _⟩ := four_cell p1
          obtain ⟨⟨d0, d1, d2, d3⟩, _⟩ := four_cell hDb
          clear p1 p2 p3 p4 hDb
          go_wp2_with fail
          refine Calls.mono ct ?_
          rintro e w6 ⟨rfl, hs6, k6⟩
          have HS6 : Hid _ := hs6
          have K6 : Hid (Kept (· < w2.heap.size) w2 w6) := HA6.out.low.trans k6
          clear ct y0 y1 y2 y3 d0 d1 d2 d3 hs6 k6
          have hP4 := (HLow.out w6 K6.out).2.2.2
          obtain ⟨⟨r0, r1, r2, r3⟩, _⟩ := four_cell hP4
          have HP4 : Hid _ := hP4
          clear hP4
          go_wp2_with fail
          refine bodyPost_ret (results_three rfl _ _ rfl (load_state (put4_at HP4.out _ _ _ _) rfl)) rfl ?_
          rw [HQ2.out]
          refine ⟨_, rfl, ⟨.slice (some ⟨g, 0, none⟩) s.vals.length vc', .slice eo' s.done.length ec', .slice go' s.got.length gc', ?_, ?_⟩, HEndK.out _ K6.out _ _ _ _⟩
          · show _ = Value.agg #[.string ⟨(settled t { s with vals := s.vals.set k N }).type.toArray⟩, .slice (some ⟨g, 0, none⟩) s.vals.length vc', .slice eo' s.done.length ec', .slice go' s.got.length gc']
            rw [(settled_grows t { s with vals := s.vals.set k N }).type]
          · exact (HS6.out.far (put4_kept (p := (w2.heap.size ≤ ·)) (by have := HBL.out; omega) _ _ _ _)).lower HBW.out
  by_cases h3 : o.kind = 3
  · have HQ : Hid (RS = fin t (addK t s o (spot (t.attrs.map At.name) o.name))) := by
      show _ = _
      rw [HRS.out, applyP, if_neg h2, if_pos h3]
      rfl
    have f0 : (o.kind == 3) = true := by simpa using h3
    rw [h3] at o0
    go_wp2_with fail
    clear y0 y1 y2 y3 o0 o1 o2 o3
    go_loopw [10, 11] (fun tk ti wr => ∃ (i : Nat) (z : Int), i ≤ t.attrs.length ∧ ti = .int .i64 i ∧ tk = .int .i64 z ∧ Fd (t.attrs.map At.name) o.name i z ∧ Kept (fun _ => True) w4 wr) (fun _ ti _ => t.attrs.length - (intOf ti).toNat)
    case atStart => exact ⟨0, -1, Nat.zero_le _, rfl, rfl, Fd.begin _ _, Kept.refl _ _⟩
    case round =>
    obtain ⟨i, z, hi, rfl, rfl, hfd, hk⟩ := hrel
    have HFd : Hid (Fd (t.attrs.map At.name) o.name i z) := hfd
    have HKr : Hid (Kept (fun _ => True) w4 wr) := hk
    have HAq : Hid (Aq w2 wr D (.slice vo' s.vals.length vc') (.slice eo' s.done.length ec') (.slice go' s.got.length gc') s) := HAq0.out.all hk
    obtain ⟨p1, p2, p3, p4⟩ := HLow.out _ HAq.out.low
    obtain ⟨⟨y0, y1, y2, y3⟩, _⟩ := four_cell p1
    obtain ⟨⟨o0, o1, o2, o3⟩, _⟩ := four_cell p3
    rw [h3] at o0
    clear p1 p2 p3 p4 hfd hk
    by_cases hlt : i < t.attrs.length
    · obtain ⟨hm1, hm2⟩ := name_at hlt
      obtain ⟨b, off, rfl, hb, q0, _⟩ := (HA.out.low' HAq.out.low).at i hlt
      have i1 : (i : Int) < (t.attrs.length : Int) := by omega
      have i0 : (0 : Int) ≤ (i : Int) := by omega
      clear hb
      by_cases hx : (t.attrs[i]).name = o.name
      · have hx' : ((t.attrs[i]).name == o.name) = true := by simpa using hx
        have HN : Hid _ := Fd.hit hm1 (hm2.trans hx)
        clear hx hm1 hm2
        generalize t.attrs[i] = x at *
        go_wp2_with fail
        go_quiet (fail)
        go_wp2_with fail
        go_roundw
        case rel => exact ⟨i + 1, _, by omega, by go_num, rfl, HN.out, HKr.out.drewN _⟩
        case measure => simp [intOf]; omega
      · have hx' : ((t.attrs[i]).name == o.name) = false := by simpa using hx
        have HN : Hid _ := HFd.out.miss hm1 (by rw [hm2]; exact hx)
        clear hx hm1 hm2
        generalize t.attrs[i] = x at *
        go_wp2_with fail
        go_quiet (fail)
        go_wp2_with fail
        go_roundw
        case rel => exact ⟨i + 1, z, by omega, by go_num, rfl, HN.out, HKr.out.drewN _⟩
        case measure => simp [intOf]; omega
    have i1 : ¬ (i : Int) < (t.attrs.length : Int) := by omega
    have hdone := HFd.out.done (by rw [List.length_map]; omega) HGd.out.attrN
    clear HFd
    have hP4 := (HLow.out wr HAq.out.low).2.2.2
    obtain ⟨⟨r0, r1, r2, r3⟩, _⟩ := four_cell hP4
    have HP4 : Hid _ := hP4
    clear hP4
    rcases hdone with ⟨rfl, hsp⟩ | ⟨k, rfl, hk, hsp⟩
    · have HQ2 : Hid (RS = (Sa.none, [], 31)) := by
        show _ = _
        rw [HQ.out, hsp]
        rfl
      clear hsp
      go_wp2_with fail
      refine bodyPost_ret (results_three rfl _ _ rfl (load_state (put4_at HP4.out _ _ _ _) rfl)) rfl ?_
      rw [HQ2.out]
      exact ⟨_, rfl, StO.none _ _, HEndK.out _ HAq.out.low _ _ _ _⟩
    · have hka : k < t.attrs.length := by simpa using hk
      have hks : k < s.vals.length := by rw [HF.out.sz.vals]; exact hka
      obtain ⟨b, off, rfl, hb, q0, q1, q2, q3⟩ := (HA.out.low' HAq.out.low).at k hka
      have hge : t.attrs.getD k At.nil = t.attrs[k] := by simp [List.getD_eq_getElem?_getD, hka]
      have k1 : (k : Int) < (t.attrs.length : Int) := by omega
      have k2 : (k : Int) < (s.vals.length : Int) := by omega
      have k0 : (0 : Int) ≤ (k : Int) := by omega
      clear hb hk
      by_cases b1 : o.n < -2000
      · have HQ2 : Hid (RS = (Sa.none, [], 34)) := by
          show _ = _
          rw [HQ.out, hsp]
          show fin t (if o.n < -2000 ∨ 2000 < o.n then (s, 34) else putP t s k (s.vals.getD k 0 + o.n)) = _
          rw [if_pos (.inl b1)]
          rfl
        clear hge hsp
        generalize t.attrs[k] = x at *
        go_wp2_with fail
        refine bodyPost_ret (results_three rfl _ _ rfl (load_state (put4_at HP4.out _ _ _ _) rfl)) rfl ?_
        rw [HQ2.out]
        exact ⟨_, rfl, StO.none _ _, HEndK.out _ HAq.out.low _ _ _ _⟩
      by_cases b2 : 2000 < o.n
      · have HQ2 : Hid (RS = (Sa.none, [], 34)) := by
          show _ = _
          rw [HQ.out, hsp]
          show fin t (if o.n < -2000 ∨ 2000 < o.n then (s, 34) else putP t s k (s.vals.getD k 0 + o.n)) = _
          rw [if_pos (.inr b2)]
          rfl
        clear hge hsp
        generalize t.attrs[k] = x at *
        go_wp2_with fail
        refine bodyPost_ret (results_three rfl _ _ rfl (load_state (put4_at HP4.out _ _ _ _) rfl)) rfl ?_
        rw [HQ2.out]
        exact ⟨_, rfl, StO.none _ _, HEndK.out _ HAq.out.low _ _ _ _⟩
      have hwi := HF.out.within k hka
      have hra := HGd.out.ranges t.attrs[k] (List.getElem_mem hka)
      have hgv : s.vals.getD k 0 = s.vals[k] := by simp [List.getD_eq_getElem?_getD, hks]
      rw [hge, hgv] at hwi
      simp only [wthn, Bool.and_eq_true, decide_eq_true_eq] at hwi
      obtain ⟨N, hN⟩ : ∃ N, N = o.n + s.vals[k] := ⟨_, rfl⟩
      have hwr : IntKind.i64.wrap N = N := wrap_ok (by omega) (by omega)
      have HQ3 : Hid (RS = fin t (putP t s k N)) := by
        show _ = _
        rw [HQ.out, hsp]
        show fin t (if o.n < -2000 ∨ 2000 < o.n then (s, 34) else putP t s k (s.vals.getD k 0 + o.n)) = _
        rw [if_neg (by omega), hgv, hN, Int.add_comm]
      obtain ⟨b9, off9, rfl, hb9, c9⟩ := (HV.out.low' HAq.out.low).intAt k hks
      have hB2 := (HLow.out _ HAq.out.low).2.1
      obtain ⟨⟨z0, z1, z2, z3⟩, _⟩ := four_cell hB2
      have hNe : o.n + s.vals[k] = N := hN.symm
      clear hsp hwi hra hgv hN hb9 hB2
      by_cases l1 : N < (t.attrs[k]).lo
      · have HQ2 : Hid (RS = (Sa.none, [], 34)) := by
          show _ = _
          rw [HQ3.out, putP, if_neg (by rw [hge]; simp only [wthn, Bool.and_eq_true, decide_eq_true_eq]; omega)]
          rfl
        clear hge
        generalize t.attrs[k] = x at *
        go_wp2_with fail
        refine bodyPost_ret (results_three rfl _ _ rfl (load_state (put4_at HP4.out _ _ _ _) rfl)) rfl ?_
        rw [HQ2.out]
        exact ⟨_, rfl, StO.none _ _, HEndK.out _ HAq.out.low _ _ _ _⟩
      · by_cases l2 : (t.attrs[k]).hi < N
        · have HQ2 : Hid (RS = (Sa.none, [], 34)) := by
            show _ = _
            rw [HQ3.out, putP, if_neg (by rw [hge]; simp only [wthn, Bool.and_eq_true, decide_eq_true_eq]; omega)]
            rfl
          clear hge
          generalize t.attrs[k] = x at *
          go_wp2_with fail
          refine bodyPost_ret (results_three rfl _ _ rfl (load_state (put4_at HP4.out _ _ _ _) rfl)) rfl ?_
          rw [HQ2.out]
          exact ⟨_, rfl, StO.none _ _, HEndK.out _ HAq.out.low _ _ _ _⟩
        · have HQ2 : Hid (RS = (settled t { s with vals := s.vals.set k N }, [], 0)) := by
            show _ = _
            rw [HQ3.out, putP, if_pos (by rw [hge]; simp only [wthn, Bool.and_eq_true, decide_eq_true_eq]; omega)]
            rfl
          have hrow := HAq.out.so.vals
          obtain ⟨g, rfl⟩ : ∃ g, vo' = some ⟨g, 0, none⟩ := by
            obtain ⟨ao', cap', e, _, _, h0⟩ := own_form hrow
            cases e
            exact h0 (by omega)
          have c0 := hrow.cellAt k (by omega)
          rw [show (iv s.vals)[k]? = some (.int .i64 s.vals[k]) by simp [iv, hks]] at c0
          have f0 := hrow.frozenAt k
          have HA6 : Hid (Aq w2 (wr.setCell ⟨g, k, none⟩ (.int .i64 N)) D (.slice (some ⟨g, 0, none⟩) s.vals.length vc') (.slice eo' s.done.length ec') (.slice go' s.got.length gc') { s with vals := s.vals.set k N }) := HAq.out.setVal rfl k N
          have HSz : Hid (Sized t { s with vals := s.vals.set k N }) := ⟨by simpa using HF.out.sz.vals, HF.out.sz.done, HF.out.sz.got⟩
          have hDb := HAq.out.box
          obtain ⟨⟨d0, d1, d2, d3⟩, _⟩ := four_cell hDb
          clear hge hrow hDb
          generalize t.attrs[k] = x at *
          generalize s.vals[k] = old at *
          go_upto_region 34 with fail
          clear y0 y1 y2 y3 d0 d1 d2 d3 o0 o1 o2 o3 c0 f0 r0 r1 r2 r3 HP4
          generalize wr.setCell ⟨g, k, none⟩ (.int .i64 N) = w5 at *
          have ct := rsettle_any HT2.out HA6.out.low HA6.out.so HGd.out HSz.out
          have hDb := HA6.out.box
          obtain ⟨p1, p2, p3, p4⟩ := HLow.out _ HA6.out.low
          obtain ⟨⟨y0, y1, y2, y3⟩, _⟩ := four_cell p1
          obtain ⟨⟨d0, d1, d2, d3⟩, _⟩ := four_cell hDb
          clear p1 p2 p3 p4 hDb
          go_wp2_with fail
          refine Calls.mono ct ?_
          rintro e w6 ⟨rfl, hs6, k6⟩
          have HS6 : Hid _ := hs6
          have K6 : Hid (Kept (· < w2.heap.size) w2 w6) := HA6.out.low.trans k6
          clear ct y0 y1 y2 y3 d0 d1 d2 d3 hs6 k6
          have hP4 := (HLow.out w6 K6.out).2.2.2
          obtain ⟨⟨r0, r1, r2, r3⟩, _⟩ := four_cell hP4
          have HP4 : Hid _ := hP4
          clear hP4
          go_wp2_with fail
          refine bodyPost_ret (results_three rfl _ _ rfl (load_state (put4_at HP4.out _ _ _ _) rfl)) rfl ?_
          rw [HQ2.out]
          refine ⟨_, rfl, ⟨.slice (some ⟨g, 0, none⟩) s.vals.length vc', .slice eo' s.done.length ec', .slice go' s.got.length gc', ?_, ?_⟩, HEndK.out _ K6.out _ _ _ _⟩
          · show _ = Value.agg #[.string ⟨(settled t { s with vals := s.vals.set k N }).type.toArray⟩, .slice (some ⟨g, 0, none⟩) s.vals.length vc', .slice eo' s.done.length ec', .slice go' s.got.length gc']
            rw [(settled_grows t { s with vals := s.vals.set k N }).type]
          · exact (HS6.out.far (put4_kept (p := (w2.heap.size ≤ ·)) (by have := HBL.out; omega) _ _ _ _)).lower HBW.out
  by_cases h4 : o.kind = 4
  · have HQ : Hid (RS = fin t (fireK t s (spot (t.stages.map Ru.name) o.name))) := by
      show _ = _
      rw [HRS.out, applyP, if_neg h2, if_neg h3, if_pos h4]
      rfl
    have f2 : (o.kind == 2) = false := by simpa using h2
    have f3 : (o.kind == 3) = false := by simpa using h3
    rw [h4] at o0
    go_wp2_with fail
    clear y0 y1 y2 y3 o0 o1 o2 o3
    go_loopw [13, 14] (fun tk ti wr => ∃ (i : Nat) (z : Int), i ≤ t.stages.length ∧ ti = .int .i64 i ∧ tk = .int .i64 z ∧ Fd (t.stages.map Ru.name) o.name i z ∧ Kept (fun _ => True) w4 wr) (fun _ ti _ => t.stages.length - (intOf ti).toNat)
    case atStart => exact ⟨0, -1, Nat.zero_le _, rfl, rfl, Fd.begin _ _, Kept.refl _ _⟩
    case round =>
    obtain ⟨i, z, hi, rfl, rfl, hfd, hk⟩ := hrel
    have HFd : Hid (Fd (t.stages.map Ru.name) o.name i z) := hfd
    have HKr : Hid (Kept (fun _ => True) w4 wr) := hk
    have HAq : Hid (Aq w2 wr D (.slice vo' s.vals.length vc') (.slice eo' s.done.length ec') (.slice go' s.got.length gc') s) := HAq0.out.all hk
    obtain ⟨p1, p2, p3, p4⟩ := HLow.out _ HAq.out.low
    obtain ⟨⟨y0, y1, y2, y3⟩, _⟩ := four_cell p1
    obtain ⟨⟨o0, o1, o2, o3⟩, _⟩ := four_cell p3
    rw [h4] at o0
    clear p1 p2 p3 p4 hfd hk
    by_cases hlt : i < t.stages.length
    · obtain ⟨hm1, hm2⟩ := rule_at hlt
      obtain ⟨b, off, rfl, hb, q0, _⟩ := (HR.out.low' HAq.out.low).at i hlt
      have i1 : (i : Int) < (t.stages.length : Int) := by omega
      have i0 : (0 : Int) ≤ (i : Int) := by omega
      clear hb
      by_cases hx : (t.stages[i]).name = o.name
      · have hx' : ((t.stages[i]).name == o.name) = true := by simpa using hx
        have HN : Hid _ := Fd.hit hm1 (hm2.trans hx)
        clear hx hm1 hm2
        generalize t.stages[i] = x at *
        go_wp2_with fail
        go_quiet (fail)
        go_wp2_with fail
        go_roundw
        case rel => exact ⟨i + 1, _, by omega, by go_num, rfl, HN.out, HKr.out.drewN _⟩
        case measure => simp [intOf]; omega
      · have hx' : ((t.stages[i]).name == o.name) = false := by simpa using hx
        have HN : Hid _ := HFd.out.miss hm1 (by rw [hm2]; exact hx)
        clear hx hm1 hm2
        generalize t.stages[i] = x at *
        go_wp2_with fail
        go_quiet (fail)
        go_wp2_with fail
        go_roundw
        case rel => exact ⟨i + 1, z, by omega, by go_num, rfl, HN.out, HKr.out.drewN _⟩
        case measure => simp [intOf]; omega
    have i1 : ¬ (i : Int) < (t.stages.length : Int) := by omega
    have hdone := HFd.out.done (by rw [List.length_map]; omega) HGd.out.stageN
    clear HFd
    have hB2 := (HLow.out _ HAq.out.low).2.1
    have hB1 := (HLow.out _ HAq.out.low).1
    have hP4 := (HLow.out wr HAq.out.low).2.2.2
    obtain ⟨⟨r0, r1, r2, r3⟩, _⟩ := four_cell hP4
    have HP4 : Hid _ := hP4
    clear hP4
    obtain ⟨⟨z0, z1, z2, z3⟩, _⟩ := four_cell hB2
    rcases hdone with ⟨rfl, hsp⟩ | ⟨k, rfl, hk, hsp⟩
    · have HQ2 : Hid (RS = (Sa.none, [], 32)) := by
        show _ = _
        rw [HQ.out, hsp]
        rfl
      clear hsp hB1 hB2
      go_wp2_with fail
      go_quiet (fail)
      go_wp2_with fail
      refine bodyPost_ret (results_three rfl _ _ rfl (load_state (put4_at HP4.out _ _ _ _) rfl)) rfl ?_
      rw [HQ2.out]
      exact ⟨_, rfl, StO.none _ _, HEndK.out _ (HAq.out.low.drewN _) _ _ _ _⟩
    · have hka : k < t.stages.length := by simpa using hk
      have hks : k < s.done.length := by rw [HF.out.sz.done]; exact hka
      obtain ⟨b, off, rfl, hb, q0, q1⟩ := (HR.out.low' HAq.out.low).at k hka
      obtain ⟨b2, off2, rfl, hb2, c1⟩ := (HE.out.low' HAq.out.low).boolAt k hks
      have HRd : Hid (rdy t s k = (!(s.done[k]) && hld t s (t.stages[k]).guard)) := by
        show _ = _
        simp [rdy, List.getD_eq_getElem?_getD, hka, hks]
      have HQ3 : Hid (RS = fin t (if rdy t s k = true then ({ s with done := s.done.set k true }, 0) else (s, 32))) := by
        show _ = _
        rw [HQ.out, hsp]
        rfl
      have HGL : Hid ((t.stages[k]).guard.length ≤ 10000) := by
        have := HGd.out.guards _ (List.mem_append.2 (.inl (List.getElem_mem hka)))
        show _ ≤ _
        omega
      have k1 : (k : Int) < (t.stages.length : Int) := by omega
      have k2 : (k : Int) < (s.done.length : Int) := by omega
      have k0 : (0 : Int) ≤ (k : Int) := by omega
      have k3 : decide ((k : Int) < 0) = false := by simp
      have k4 : ¬ (k : Int) < 0 := by omega
      have hrow := HAq.out.so.done
      have hcell : (bv s.done)[k]? = some (.bool s.done[k]) := by simp [bv, hks]
      have HCell : Hid _ := hcell
      clear hk hsp HQ hcell hrow
      generalize t.stages[k] = x at *
      generalize s.done[k] = dq at *
      generalize rdy t s k = rq at *
      cases dq with
      | true =>
        have HQ2 : Hid (RS = (Sa.none, [], 32)) := by
          have h6 := HRd.out
          simp only [Bool.not_true, Bool.false_and] at h6
          show _ = _
          rw [HQ3.out, h6]
          rfl
        clear hB1 hB2 hb hb2
        go_wp2_with fail
        go_quiet (fail)
        go_wp2_with fail
        refine bodyPost_ret (results_three rfl _ _ rfl (load_state (put4_at HP4.out _ _ _ _) rfl)) rfl ?_
        rw [HQ2.out]
        exact ⟨_, rfl, StO.none _ _, HEndK.out _ (HAq.out.low.drewN _) _ _ _ _⟩
      | false =>
        have HRd2 : Hid (rq = hld t s x.guard) := by show _ = _; rw [HRd.out]; simp
        have HCh : Hid (∀ W, Kept (fun _ => True) wr W → Calls Tryd.prog 39 #[.agg #[.string ⟨t.name.toArray⟩, .slice ao t.attrs.length ac, .slice (some ⟨b, off, none⟩) t.stages.length sc, .slice mo t.marks.length mc], .agg #[.string ⟨s.type.toArray⟩, .slice vo s.vals.length vc, .slice (some ⟨b2, off2, none⟩) s.done.length ec, .slice go s.got.length gc], .string ⟨x.guard.toArray⟩] W fun e w' => e = .returned (.bool rq) ∧ Kept (fun _ => True) W w') := fun W q => by
          rw [HRd2.out]
          have k : Kept (· < w2.heap.size) w2 W := (HAq.out.all q).low
          exact rholds_any (HT2.out.low k) (StV.low HS2.out k) (HF.out.few HGd.out) (by have := HGd.out.few; omega) (by have := HGL.out; omega)
        have Y0 := fun W (q : Kept (fun _ => True) wr W) => (kept_cell q (lt_of_block hB1) trivial).trans y0
        have Y1 := fun W (q : Kept (fun _ => True) wr W) => (kept_cell q (lt_of_block hB1) trivial).trans y1
        have Y2 := fun W (q : Kept (fun _ => True) wr W) => (kept_cell q (lt_of_block hB1) trivial).trans y2
        have Y3 := fun W (q : Kept (fun _ => True) wr W) => (kept_cell q (lt_of_block hB1) trivial).trans y3
        have Z0 := fun W (q : Kept (fun _ => True) wr W) => (kept_cell q (lt_of_block hB2) trivial).trans z0
        have Z1 := fun W (q : Kept (fun _ => True) wr W) => (kept_cell q (lt_of_block hB2) trivial).trans z1
        have Z2 := fun W (q : Kept (fun _ => True) wr W) => (kept_cell q (lt_of_block hB2) trivial).trans z2
        have Z3 := fun W (q : Kept (fun _ => True) wr W) => (kept_cell q (lt_of_block hB2) trivial).trans z3
        have C1 := fun W (q : Kept (fun _ => True) wr W) => (kept_cell q hb2 trivial).trans c1
        have QG := fun W (q : Kept (fun _ => True) wr W) => (kept_cell q hb trivial).trans q1
        have kd : Kept (fun _ => True) wr wr.drew := (Kept.refl _ _).drew
        go_upto_region 31 with fail
        clear y0 y1 y2 y3 z0 z1 z2 z3 o0 o1 o2 o3 c1 q0 q1 hb hb2 r0 r1 r2 r3 HP4
        go_region_held3 (fun W => Kept (fun _ => True) wr W) (assumption) (first
          | (go_at_call 39; refine Calls.mono (HCh.out _ (by assumption)) ?_; rintro e w7 ⟨rfl, k4⟩; have p4 : Kept (fun _ => True) wr w7 := Kept.trans (by assumption) k4; clear k4))
        all_goals
          have HA7 : Hid (Aq w2 w7 D (.slice vo' s.vals.length vc') (.slice eo' s.done.length ec') (.slice go' s.got.length gc') s) := HAq.out.all p4
          clear Y0 Y1 Y2 Y3 Z0 Z1 Z2 Z3 C1 QG kd p4 HCh hB1 hB2
          cases rq with
          | false =>
            have HQ2 : Hid (RS = (Sa.none, [], 32)) := HQ3.out
            have hP4 := (HLow.out w7 HA7.out.low).2.2.2
            obtain ⟨⟨r0, r1, r2, r3⟩, _⟩ := four_cell hP4
            have HP4 : Hid _ := hP4
            clear hP4
            go_wp2_with fail
            refine bodyPost_ret (results_three rfl _ _ rfl (load_state (put4_at HP4.out _ _ _ _) rfl)) rfl ?_
            rw [HQ2.out]
            exact ⟨_, rfl, StO.none _ _, HEndK.out _ HA7.out.low _ _ _ _⟩
          | true =>
            have HQ2 : Hid (RS = (settled t { s with done := s.done.set k true }, [], 0)) := HQ3.out
            have hrow := HA7.out.so.done
            obtain ⟨g, rfl⟩ : ∃ g, eo' = some ⟨g, 0, none⟩ := by
              obtain ⟨ao', cap', e, _, _, h0⟩ := own_form hrow
              cases e
              exact h0 (by omega)
            have c0 := hrow.cellAt k (by omega)
            rw [HCell.out] at c0
            have f0 := hrow.frozenAt k
            have HA6 : Hid (Aq w2 (w7.setCell ⟨g, k, none⟩ (.bool true)) D (.slice vo' s.vals.length vc') (.slice (some ⟨g, 0, none⟩) s.done.length ec') (.slice go' s.got.length gc') { s with done := s.done.set k true }) := HA7.out.setDone rfl k true
            have HSz : Hid (Sized t { s with done := s.done.set k true }) := ⟨HF.out.sz.vals, by simpa using HF.out.sz.done, HF.out.sz.got⟩
            have hDb := HA7.out.box
            obtain ⟨⟨d0, d1, d2, d3⟩, _⟩ := four_cell hDb
            clear hrow hDb
            go_upto_region 34 with fail
            clear d0 d1 d2 d3 c0 f0
            generalize w7.setCell ⟨g, k, none⟩ (.bool true) = w5 at *
            have ct := rsettle_any HT2.out HA6.out.low HA6.out.so HGd.out HSz.out
            have hDb := HA6.out.box
            obtain ⟨p1, p2, p3, p4⟩ := HLow.out _ HA6.out.low
            obtain ⟨⟨y0, y1, y2, y3⟩, _⟩ := four_cell p1
            obtain ⟨⟨d0, d1, d2, d3⟩, _⟩ := four_cell hDb
            clear p1 p2 p3 p4 hDb
            go_wp2_with fail
            refine Calls.mono ct ?_
            rintro e w6 ⟨rfl, hs6, k6⟩
            have HS6 : Hid _ := hs6
            have K6 : Hid (Kept (· < w2.heap.size) w2 w6) := HA6.out.low.trans k6
            clear ct y0 y1 y2 y3 d0 d1 d2 d3 hs6 k6
            have hP4 := (HLow.out w6 K6.out).2.2.2
            obtain ⟨⟨r0, r1, r2, r3⟩, _⟩ := four_cell hP4
            have HP4 : Hid _ := hP4
            clear hP4
            go_wp2_with fail
            refine bodyPost_ret (results_three rfl _ _ rfl (load_state (put4_at HP4.out _ _ _ _) rfl)) rfl ?_
            rw [HQ2.out]
            refine ⟨_, rfl, ⟨.slice vo' s.vals.length vc', .slice (some ⟨g, 0, none⟩) s.done.length ec', .slice go' s.got.length gc', ?_, ?_⟩, HEndK.out _ K6.out _ _ _ _⟩
            · show _ = Value.agg #[.string ⟨(settled t { s with done := s.done.set k true }).type.toArray⟩, .slice vo' s.vals.length vc', .slice (some ⟨g, 0, none⟩) s.done.length ec', .slice go' s.got.length gc']
              rw [(settled_grows t { s with done := s.done.set k true }).type]
            · exact (HS6.out.far (put4_kept (p := (w2.heap.size ≤ ·)) (by have := HBL.out; omega) _ _ _ _)).lower HBW.out
  have HQ2 : Hid (RS = (Sa.none, [], 1)) := by
    show _ = _
    rw [HRS.out, applyP, if_neg h2, if_neg h3, if_neg h4, if_neg h5]
  have f2 : (o.kind == 2) = false := by simpa using h2
  have f3 : (o.kind == 3) = false := by simpa using h3
  have f4 : (o.kind == 4) = false := by simpa using h4
  clear h2 h3 h4 h5
  have hP4 := (HLow.out w4 HAq0.out.low).2.2.2
  obtain ⟨⟨r0, r1, r2, r3⟩, _⟩ := four_cell hP4
  have HP4 : Hid _ := hP4
  clear hP4
  go_wp2_with fail
  refine bodyPost_ret (results_three rfl _ _ rfl (load_state (put4_at HP4.out _ _ _ _) rfl)) rfl ?_
  rw [HQ2.out]
  exact ⟨_, rfl, StO.none _ _, HEndK.out _ HAq0.out.low _ _ _ _⟩

end Go.Proofs.YtnddpalngjmhnaaDoor
