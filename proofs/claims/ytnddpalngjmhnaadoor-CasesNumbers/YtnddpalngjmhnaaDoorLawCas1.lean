/-
  CasesNumbers.
-/
import Derived.Test.YtnddpalngjmhnaaDoorLawCas2
import Derived.Test.YtnddpalngjmhnaaDoorVOps
namespace Go.Proofs.YtnddpalngjmhnaaDoor
open Go.RowKit

def sEnd : Sa := ⟨[108, 111, 97, 110], [0, -10], [true, true], [true, true, true]⟩
def opsL : List Oq := [⟨4, [120], [112, 97, 121], 0⟩, ⟨2, [120], [115, 117, 109], 101⟩, ⟨2, [120], [110, 111, 110, 101], 1⟩, ⟨3, [120], [115, 117, 109], (-6)⟩, ⟨3, [120], [115, 117, 109], 2001⟩, ⟨3, [120], [110, 111, 110, 101], 9999⟩, ⟨2, [120], [114, 105, 115, 107], 5⟩, ⟨4, [120], [99, 104, 101, 99, 107], 0⟩, ⟨2, [120], [114, 105, 115, 107], (-10)⟩, ⟨4, [120], [99, 104, 101, 99, 107], 0⟩, ⟨4, [120], [110, 111, 110, 101], 0⟩, ⟨3, [120], [115, 117, 109], 46⟩, ⟨4, [120], [112, 97, 121], 0⟩, ⟨5, [120], [], 0⟩, ⟨2, [120], [115, 117, 109], 0⟩, ⟨1, [120], [108, 111, 97, 110], 0⟩, ⟨9, [], [], 0⟩, ⟨5, [120], [], 0⟩]
theorem runs_loan : runs loan opsL sLoan = sEnd := by kernel_rfl
theorem text_end : textP loan sEnd = [108, 111, 97, 110, 32, 115, 117, 109, 61, 48, 32, 114, 105, 115, 107, 61, 45, 49, 48, 32, 43, 99, 104, 101, 99, 107, 32, 43, 112, 97, 121, 32, 42, 112, 97, 105, 100, 32, 42, 98, 105, 103, 32, 42, 98, 111, 116, 104] := by kernel_rfl
theorem ready_end : readyP loan sEnd = [] := by kernel_rfl
theorem count_right : right count = 0 := by kernel_rfl
theorem numbers_letters : ∃ (t0 t1 : Ty) (s1 sE : Sa) (o1 o2 o3 o4 o5 o6 o7 o8 o9 o10 o11 o12 o13 o14 o15 o16 o18 : Oq), Good t0 ∧ Good t1 ∧ Fit t0 s1 ∧ s1 = newP t0 ∧ runs t0 [o1, o2, o3, o4, o5, o6, o7, o8, o9, o10, o11, o12, o13, o14, o15, o16, ⟨9, [], [], 0⟩, o18] s1 = sE ∧ textP t0 sE = [108, 111, 97, 110, 32, 115, 117, 109, 61, 48, 32, 114, 105, 115, 107, 61, 45, 49, 48, 32, 43, 99, 104, 101, 99, 107, 32, 43, 112, 97, 121, 32, 42, 112, 97, 105, 100, 32, 42, 98, 105, 103, 32, 42, 98, 111, 116, 104] ∧ readyP t0 sE = [] ∧ ¬ Fit t0 Sa.none ∧ ¬ Fit t1 sE ∧ (∀ w, Calls Tryd.prog 9 #[] w fun e w' => ∃ g a s m b, e = .returned (.slice (some ⟨g, 0, none⟩) 2 2) ∧ w'.heap[g]? = some (.cells #[.string ⟨t0.name.toArray⟩, a, s, m, .string ⟨t1.name.toArray⟩, b, .slice none 0 0, .slice none 0 0] 25 (0, 0)) ∧ TyV w' (.agg #[.string ⟨t0.name.toArray⟩, a, s, m]) t0 ∧ TyV w' (.agg #[.string ⟨t1.name.toArray⟩, b, .slice none 0 0, .slice none 0 0]) t1 ∧ Kept (fun _ => True) w w') ∧ (∀ W, Calls Tryd.prog 12 #[.string ⟨#[120]⟩, .string ⟨#[112, 97, 121]⟩] W fun e w' => e = .returned (.agg #[.int .i64 o1.kind, .string ⟨o1.cas.toArray⟩, .string ⟨o1.name.toArray⟩, .int .i64 o1.n]) ∧ Kept (fun _ => True) W w') ∧ (∀ W, Calls Tryd.prog 13 #[.string ⟨#[120]⟩, .string ⟨#[115, 117, 109]⟩, .int .i64 101] W fun e w' => e = .returned (.agg #[.int .i64 o2.kind, .string ⟨o2.cas.toArray⟩, .string ⟨o2.name.toArray⟩, .int .i64 o2.n]) ∧ Kept (fun _ => True) W w') ∧ (∀ W, Calls Tryd.prog 13 #[.string ⟨#[120]⟩, .string ⟨#[110, 111, 110, 101]⟩, .int .i64 1] W fun e w' => e = .returned (.agg #[.int .i64 o3.kind, .string ⟨o3.cas.toArray⟩, .string ⟨o3.name.toArray⟩, .int .i64 o3.n]) ∧ Kept (fun _ => True) W w') ∧ (∀ W, Calls Tryd.prog 14 #[.string ⟨#[120]⟩, .string ⟨#[115, 117, 109]⟩, .int .i64 (-6)] W fun e w' => e = .returned (.agg #[.int .i64 o4.kind, .string ⟨o4.cas.toArray⟩, .string ⟨o4.name.toArray⟩, .int .i64 o4.n]) ∧ Kept (fun _ => True) W w') ∧ (∀ W, Calls Tryd.prog 14 #[.string ⟨#[120]⟩, .string ⟨#[115, 117, 109]⟩, .int .i64 2001] W fun e w' => e = .returned (.agg #[.int .i64 o5.kind, .string ⟨o5.cas.toArray⟩, .string ⟨o5.name.toArray⟩, .int .i64 o5.n]) ∧ Kept (fun _ => True) W w') ∧ (∀ W, Calls Tryd.prog 14 #[.string ⟨#[120]⟩, .string ⟨#[110, 111, 110, 101]⟩, .int .i64 9999] W fun e w' => e = .returned (.agg #[.int .i64 o6.kind, .string ⟨o6.cas.toArray⟩, .string ⟨o6.name.toArray⟩, .int .i64 o6.n]) ∧ Kept (fun _ => True) W w') ∧ (∀ W, Calls Tryd.prog 13 #[.string ⟨#[120]⟩, .string ⟨#[114, 105, 115, 107]⟩, .int .i64 5] W fun e w' => e = .returned (.agg #[.int .i64 o7.kind, .string ⟨o7.cas.toArray⟩, .string ⟨o7.name.toArray⟩, .int .i64 o7.n]) ∧ Kept (fun _ => True) W w') ∧ (∀ W, Calls Tryd.prog 12 #[.string ⟨#[120]⟩, .string ⟨#[99, 104, 101, 99, 107]⟩] W fun e w' => e = .returned (.agg #[.int .i64 o8.kind, .string ⟨o8.cas.toArray⟩, .string ⟨o8.name.toArray⟩, .int .i64 o8.n]) ∧ Kept (fun _ => True) W w') ∧ (∀ W, Calls Tryd.prog 13 #[.string ⟨#[120]⟩, .string ⟨#[114, 105, 115, 107]⟩, .int .i64 (-10)] W fun e w' => e = .returned (.agg #[.int .i64 o9.kind, .string ⟨o9.cas.toArray⟩, .string ⟨o9.name.toArray⟩, .int .i64 o9.n]) ∧ Kept (fun _ => True) W w') ∧ (∀ W, Calls Tryd.prog 12 #[.string ⟨#[120]⟩, .string ⟨#[99, 104, 101, 99, 107]⟩] W fun e w' => e = .returned (.agg #[.int .i64 o10.kind, .string ⟨o10.cas.toArray⟩, .string ⟨o10.name.toArray⟩, .int .i64 o10.n]) ∧ Kept (fun _ => True) W w') ∧ (∀ W, Calls Tryd.prog 12 #[.string ⟨#[120]⟩, .string ⟨#[110, 111, 110, 101]⟩] W fun e w' => e = .returned (.agg #[.int .i64 o11.kind, .string ⟨o11.cas.toArray⟩, .string ⟨o11.name.toArray⟩, .int .i64 o11.n]) ∧ Kept (fun _ => True) W w') ∧ (∀ W, Calls Tryd.prog 14 #[.string ⟨#[120]⟩, .string ⟨#[115, 117, 109]⟩, .int .i64 46] W fun e w' => e = .returned (.agg #[.int .i64 o12.kind, .string ⟨o12.cas.toArray⟩, .string ⟨o12.name.toArray⟩, .int .i64 o12.n]) ∧ Kept (fun _ => True) W w') ∧ (∀ W, Calls Tryd.prog 12 #[.string ⟨#[120]⟩, .string ⟨#[112, 97, 121]⟩] W fun e w' => e = .returned (.agg #[.int .i64 o13.kind, .string ⟨o13.cas.toArray⟩, .string ⟨o13.name.toArray⟩, .int .i64 o13.n]) ∧ Kept (fun _ => True) W w') ∧ (∀ W, Calls Tryd.prog 15 #[.string ⟨#[120]⟩] W fun e w' => e = .returned (.agg #[.int .i64 o14.kind, .string ⟨o14.cas.toArray⟩, .string ⟨o14.name.toArray⟩, .int .i64 o14.n]) ∧ Kept (fun _ => True) W w') ∧ (∀ W, Calls Tryd.prog 13 #[.string ⟨#[120]⟩, .string ⟨#[115, 117, 109]⟩, .int .i64 0] W fun e w' => e = .returned (.agg #[.int .i64 o15.kind, .string ⟨o15.cas.toArray⟩, .string ⟨o15.name.toArray⟩, .int .i64 o15.n]) ∧ Kept (fun _ => True) W w') ∧ (∀ W, Calls Tryd.prog 16 #[.string ⟨#[120]⟩, .string ⟨#[108, 111, 97, 110]⟩] W fun e w' => e = .returned (.agg #[.int .i64 o16.kind, .string ⟨o16.cas.toArray⟩, .string ⟨o16.name.toArray⟩, .int .i64 o16.n]) ∧ Kept (fun _ => True) W w') ∧ (∀ W, Calls Tryd.prog 15 #[.string ⟨#[120]⟩] W fun e w' => e = .returned (.agg #[.int .i64 o18.kind, .string ⟨o18.cas.toArray⟩, .string ⟨o18.name.toArray⟩, .int .i64 o18.n]) ∧ Kept (fun _ => True) W w') :=
  ⟨loan, count, sLoan, sEnd, ⟨4, [120], [112, 97, 121], 0⟩, ⟨2, [120], [115, 117, 109], 101⟩, ⟨2, [120], [110, 111, 110, 101], 1⟩, ⟨3, [120], [115, 117, 109], (-6)⟩, ⟨3, [120], [115, 117, 109], 2001⟩, ⟨3, [120], [110, 111, 110, 101], 9999⟩, ⟨2, [120], [114, 105, 115, 107], 5⟩, ⟨4, [120], [99, 104, 101, 99, 107], 0⟩, ⟨2, [120], [114, 105, 115, 107], (-10)⟩, ⟨4, [120], [99, 104, 101, 99, 107], 0⟩, ⟨4, [120], [110, 111, 110, 101], 0⟩, ⟨3, [120], [115, 117, 109], 46⟩, ⟨4, [120], [112, 97, 121], 0⟩, ⟨5, [120], [], 0⟩, ⟨2, [120], [115, 117, 109], 0⟩, ⟨1, [120], [108, 111, 97, 110], 0⟩, ⟨5, [120], [], 0⟩, loan_good, good_of count_right, fit_loan, new_loan.symm, runs_loan, text_end, ready_end, fun h => (by have := h.type; cases this), fun h => (by have := h.type; cases this), fun w => types_any, fun W => fireOp_any [120] [112, 97, 121], fun W => setOp_any [120] [115, 117, 109] 101, fun W => setOp_any [120] [110, 111, 110, 101] 1, fun W => addOp_any [120] [115, 117, 109] (-6), fun W => addOp_any [120] [115, 117, 109] 2001, fun W => addOp_any [120] [110, 111, 110, 101] 9999, fun W => setOp_any [120] [114, 105, 115, 107] 5, fun W => fireOp_any [120] [99, 104, 101, 99, 107], fun W => setOp_any [120] [114, 105, 115, 107] (-10), fun W => fireOp_any [120] [99, 104, 101, 99, 107], fun W => fireOp_any [120] [110, 111, 110, 101], fun W => addOp_any [120] [115, 117, 109] 46, fun W => fireOp_any [120] [112, 97, 121], fun W => readOp_any [120], fun W => setOp_any [120] [115, 117, 109] 0, fun W => createOp_any [120] [108, 111, 97, 110], fun W => readOp_any [120]⟩
theorem Ov.store {w w' : World} {v : Value} {xs : List Oq} {D : Nat} {s : ByteArray} {a1 a2 a3 : Option Addr} {n1 n2 n3 c1 c2 c3 : Nat} {T : TypeId} {fr : Nat × Nat} (h : Ov w v xs) (hD : w.heap[D]? = some (.cells #[.string s, .slice a1 n1 c1, .slice a2 n2 c2, .slice a3 n3 c3] T fr)) (k : Kept (· ≠ D) w w') : Ov w' v xs := by
  obtain ⟨ao, cap, e, hl, h⟩ := h
  refine ⟨ao, cap, e, hl, fun h0 => ?_⟩
  obtain ⟨b, off, e, hb, hc⟩ := h h0
  have hne : b ≠ D := fun q => by
    subst q
    rcases box_cells hD (hc 0 h0).1 with ⟨_, q⟩ | ⟨_, _, _, _, q⟩ <;> cases q
  refine ⟨b, off, e, Nat.lt_of_lt_of_le hb k.size, fun i hi => ?_⟩
  simp only [kept_cell k hb hne]
  exact hc i hi
/-- A truth that tells whether a state fits a type, both looked at. -/
def Fz (w : World) (tv v : Value) (q : Bool) : Prop := ∃ t x, TyV w tv t ∧ Good t ∧ StV w v x ∧ (q = true ↔ Fit t x)
theorem fits_z {w : World} {tv v : Value} {q : Bool} (h : Fz w tv v q) (W : World) (k : Kept (fun _ => True) w W) :
    Calls Tryd.prog 22 #[tv, v] W fun e w' => e = .returned (.bool q) ∧ Kept (fun _ => True) W w' := by
  obtain ⟨t, x, ht, g, hx, hq⟩ := h
  refine (fits_any (ht.all k) (StV.all hx k) g).mono ?_
  rintro e w' ⟨⟨q', rfl, hq'⟩, k'⟩
  have e : q' = q := by
    have := hq'.trans hq.symm
    cases q <;> cases q' <;> simp_all
  exact ⟨by rw [e], k'⟩

set_option maxRecDepth 100000 in
set_option maxHeartbeats 16000000 in
theorem casesNumbers_any {w : World} (hTab : Tab w) : Calls Tryd.prog 3 #[] w fun e w' => e = .returned (.bool true) ∧ Kept (fun _ => True) w w' := by
  have HTb : Hid (Tab w) := hTab
  clear hTab
  obtain ⟨t0, t1, s1, sE, o1, o2, o3, o4, o5, o6, o7, o8, o9, o10, o11, o12, o13, o14, o15, o16, o18, g0, g1, f1, hnw, hrun, htx, hrd, hno0, hno1, hTypes, xo1, xo2, xo3, xo4, xo5, xo6, xo7, xo8, xo9, xo10, xo11, xo12, xo13, xo14, xo15, xo16, xo18⟩ := numbers_letters
  have HG0 : Hid (Good t0) := g0
  have HG1 : Hid (Good t1) := g1
  have HF1 : Hid (Fit t0 s1) := f1
  have HNw : Hid (s1 = newP t0) := hnw
  have HNo0 : Hid (¬ Fit t0 Sa.none) := hno0
  have HNo1 : Hid (¬ Fit t1 sE) := hno1
  have HTp : Hid _ := hTypes
  have HTx : Hid _ := htx
  have HRd : Hid (readyP t0 sE = []) := hrd
  have HRun : Hid _ := hrun
  have Co1 : Hid _ := xo1
  have Co2 : Hid _ := xo2
  have Co3 : Hid _ := xo3
  have Co4 : Hid _ := xo4
  have Co5 : Hid _ := xo5
  have Co6 : Hid _ := xo6
  have Co7 : Hid _ := xo7
  have Co8 : Hid _ := xo8
  have Co9 : Hid _ := xo9
  have Co10 : Hid _ := xo10
  have Co11 : Hid _ := xo11
  have Co12 : Hid _ := xo12
  have Co13 : Hid _ := xo13
  have Co14 : Hid _ := xo14
  have Co15 : Hid _ := xo15
  have Co16 : Hid _ := xo16
  have Co18 : Hid _ := xo18
  clear g0 g1 f1 hnw hrun htx hrd hno0 hno1 hTypes xo1 xo2 xo3 xo4 xo5 xo6 xo7 xo8 xo9 xo10 xo11 xo12 xo13 xo14 xo15 xo16 xo18
  have ct := HTp.out w
  go_enter Tryd.func3, Tryd.ntmps3
  go_wp2_with fail
  refine Calls.mono ct ?_
  rintro e w1 ⟨g, a, s, m, b, rfl, hg, hl, _, k1⟩
  obtain ⟨aa, an, ac, sa, sn, sc, ma, mn, mc, he⟩ := hl.parts
  simp only [Value.agg.injEq, Array.mk.injEq, List.cons.injEq, and_true, true_and] at he
  obtain ⟨rfl, rfl, rfl⟩ := he
  have l0 : w1.cell? ⟨g, 0, none⟩ = some (.string ⟨t0.name.toArray⟩) := by simp [World.cell?, hg]
  have l1 : w1.cell? ⟨g, 1, none⟩ = some (.slice aa an ac) := by simp [World.cell?, hg]
  have l2 : w1.cell? ⟨g, 2, none⟩ = some (.slice sa sn sc) := by simp [World.cell?, hg]
  have l3 : w1.cell? ⟨g, 3, none⟩ = some (.slice ma mn mc) := by simp [World.cell?, hg]
  obtain ⟨L, hL⟩ : ∃ L, L = t0.name := ⟨_, rfl⟩
  rw [← hL] at l0 hl
  have ka : Kept (fun _ => True) w1 (w1.alloc (.cells #[.string ⟨L.toArray⟩, .slice aa an ac, .slice sa sn sc, .slice ma mn mc] 25)) := (Kept.refl _ _).alloc _
  have hT := heap_alloc_new w1 (.cells #[.string ⟨L.toArray⟩, .slice aa an ac, .slice sa sn sc, .slice ma mn mc] 25)
  have HT2 : Hid _ := hT
  have K2 : Hid (Kept (fun _ => True) w _) := k1.trans ka
  have HTl : Hid (w.heap.size ≤ w1.heap.size) := k1.size
  have HTy2 : Hid (TyV _ (.agg #[.string ⟨L.toArray⟩, .slice aa an ac, .slice sa sn sc, .slice ma mn mc]) t0) := hl.all ka
  have cn := new_any HTy2.out HG0.out
  rw [← HNw.out] at cn
  obtain ⟨⟨y0, y1, y2, y3⟩, _⟩ := four_cell hT
  clear ct hg hl k1 ka hT hL
  go_wp2_with fail
  generalize w1.alloc (.cells #[.string ⟨L.toArray⟩, .slice aa an ac, .slice sa sn sc, .slice ma mn mc] 25) = w2 at *
  generalize w1.heap.size = T at *
  refine Calls.mono cn ?_
  rintro e w3 ⟨v3, rfl, ho3, k3⟩
  have hst3 := ho3.view (HF1.out.few HG0.out)
  obtain ⟨a1, c1, a2, c2, a3, c3, rfl⟩ := hst3.parts
  have ka : Kept (fun _ => True) w3 (w3.alloc (.cells #[.string ⟨s1.type.toArray⟩, .slice a1 s1.vals.length c1, .slice a2 s1.done.length c2, .slice a3 s1.got.length c3] 31)) := (Kept.refl _ _).alloc _
  have hS := heap_alloc_new w3 (.cells #[.string ⟨s1.type.toArray⟩, .slice a1 s1.vals.length c1, .slice a2 s1.done.length c2, .slice a3 s1.got.length c3] 31)
  have HLw : Hid (Lw w (w3.alloc (.cells #[.string ⟨s1.type.toArray⟩, .slice a1 s1.vals.length c1, .slice a2 s1.done.length c2, .slice a3 s1.got.length c3] 31)) t0 s1 T w3.heap.size L aa sa ma an ac sn sc mn mc a1 a2 a3 c1 c2 c3) :=
    ⟨((k3.trans ka).block _ (lt_of_block HT2.out) trivial).trans HT2.out, HTy2.out.all (k3.trans ka), hS, hst3.all ka, HF1.out, ⟨Nat.le_trans K2.out.size k3.size, by have := lt_of_block HT2.out; have := k3.size; omega⟩, K2.out.trans (k3.trans ka)⟩
  clear cn y0 y1 y2 y3 l0 l1 l2 l3 ho3 hst3 k3 ka hS HT2 HTy2 K2 HTl
  go_upto_region 3 with fail
  generalize w3.alloc (.cells #[.string ⟨s1.type.toArray⟩, .slice a1 s1.vals.length c1, .slice a2 s1.done.length c2, .slice a3 s1.got.length c3] 31) = w4 at *
  generalize w3.heap.size = S at *
  have cm := rnew_any HLw.out.type HG0.out
  rw [← HNw.out] at cm
  have hT4 := HLw.out.tbox
  obtain ⟨⟨y0, y1, y2, y3⟩, _⟩ := four_cell hT4
  clear hT4
  go_wp2_with fail
  refine Calls.mono cm ?_
  rintro e w5 ⟨v5, rfl, ho5, k5⟩
  have hst5 := ho5.view (HF1.out.few HG0.out)
  obtain ⟨b1, d1, b2, d2, b3, d3, rfl⟩ := hst5.parts
  have kb : Kept (fun _ => True) w5 (w5.alloc (.cells #[.string ⟨s1.type.toArray⟩, .slice b1 s1.vals.length d1, .slice b2 s1.done.length d2, .slice b3 s1.got.length d3] 31)) := (Kept.refl _ _).alloc _
  have hR := heap_alloc_new w5 (.cells #[.string ⟨s1.type.toArray⟩, .slice b1 s1.vals.length d1, .slice b2 s1.done.length d2, .slice b3 s1.got.length d3] 31)
  have HLp : Hid (Lp w (w5.alloc (.cells #[.string ⟨s1.type.toArray⟩, .slice b1 s1.vals.length d1, .slice b2 s1.done.length d2, .slice b3 s1.got.length d3] 31)) t0 s1 T S w5.heap.size L aa sa ma an ac sn sc mn mc a1 a2 a3 c1 c2 c3 b1 b2 b3 d1 d2 d3) :=
    ⟨HLw.out.all (k5.trans kb), hR, StV.all hst5 kb, ⟨Nat.le_trans HLw.out.kept.size k5.size, by have := lt_of_block HLw.out.tbox; have := k5.size; omega, by have := lt_of_block HLw.out.sbox; have := k5.size; omega⟩⟩
  clear cm y0 y1 y2 y3 ho5 hst5 k5 kb hR HLw
  go_upto_region 4 with fail
  generalize w5.alloc (.cells #[.string ⟨s1.type.toArray⟩, .slice b1 s1.vals.length d1, .slice b2 s1.done.length d2, .slice b3 s1.got.length d3] 31) = v0 at *
  generalize w5.heap.size = R at *
  have HK0 : Hid (Kept (fun _ => True) v0 v0) := Kept.refl _ _
  go_wp2_with fail
  refine Calls.mono (Co1.out _) ?_
  rintro e v1 ⟨rfl, k1⟩
  have HK1 : Hid (Kept (fun _ => True) v0 v1) := HK0.out.trans k1
  clear k1 Co1 HK0
  go_wp2_with fail
  refine Calls.mono (Co2.out _) ?_
  rintro e v2 ⟨rfl, k2⟩
  have HK2 : Hid (Kept (fun _ => True) v0 v2) := HK1.out.trans k2
  clear k2 Co2 HK1
  go_wp2_with fail
  refine Calls.mono (Co3.out _) ?_
  rintro e v3 ⟨rfl, k3⟩
  have HK3 : Hid (Kept (fun _ => True) v0 v3) := HK2.out.trans k3
  clear k3 Co3 HK2
  go_wp2_with fail
  refine Calls.mono (Co4.out _) ?_
  rintro e v4 ⟨rfl, k4⟩
  have HK4 : Hid (Kept (fun _ => True) v0 v4) := HK3.out.trans k4
  clear k4 Co4 HK3
  go_wp2_with fail
  refine Calls.mono (Co5.out _) ?_
  rintro e v5 ⟨rfl, k5⟩
  have HK5 : Hid (Kept (fun _ => True) v0 v5) := HK4.out.trans k5
  clear k5 Co5 HK4
  go_wp2_with fail
  refine Calls.mono (Co6.out _) ?_
  rintro e v6 ⟨rfl, k6⟩
  have HK6 : Hid (Kept (fun _ => True) v0 v6) := HK5.out.trans k6
  clear k6 Co6 HK5
  go_wp2_with fail
  refine Calls.mono (Co7.out _) ?_
  rintro e v7 ⟨rfl, k7⟩
  have HK7 : Hid (Kept (fun _ => True) v0 v7) := HK6.out.trans k7
  clear k7 Co7 HK6
  go_wp2_with fail
  refine Calls.mono (Co8.out _) ?_
  rintro e v8 ⟨rfl, k8⟩
  have HK8 : Hid (Kept (fun _ => True) v0 v8) := HK7.out.trans k8
  clear k8 Co8 HK7
  go_wp2_with fail
  refine Calls.mono (Co9.out _) ?_
  rintro e v9 ⟨rfl, k9⟩
  have HK9 : Hid (Kept (fun _ => True) v0 v9) := HK8.out.trans k9
  clear k9 Co9 HK8
  go_wp2_with fail
  refine Calls.mono (Co10.out _) ?_
  rintro e v10 ⟨rfl, k10⟩
  have HK10 : Hid (Kept (fun _ => True) v0 v10) := HK9.out.trans k10
  clear k10 Co10 HK9
  go_wp2_with fail
  refine Calls.mono (Co11.out _) ?_
  rintro e v11 ⟨rfl, k11⟩
  have HK11 : Hid (Kept (fun _ => True) v0 v11) := HK10.out.trans k11
  clear k11 Co11 HK10
  go_wp2_with fail
  refine Calls.mono (Co12.out _) ?_
  rintro e v12 ⟨rfl, k12⟩
  have HK12 : Hid (Kept (fun _ => True) v0 v12) := HK11.out.trans k12
  clear k12 Co12 HK11
  go_wp2_with fail
  refine Calls.mono (Co13.out _) ?_
  rintro e v13 ⟨rfl, k13⟩
  have HK13 : Hid (Kept (fun _ => True) v0 v13) := HK12.out.trans k13
  clear k13 Co13 HK12
  go_wp2_with fail
  refine Calls.mono (Co14.out _) ?_
  rintro e v14 ⟨rfl, k14⟩
  have HK14 : Hid (Kept (fun _ => True) v0 v14) := HK13.out.trans k14
  clear k14 Co14 HK13
  go_wp2_with fail
  refine Calls.mono (Co15.out _) ?_
  rintro e v15 ⟨rfl, k15⟩
  have HK15 : Hid (Kept (fun _ => True) v0 v15) := HK14.out.trans k15
  clear k15 Co15 HK14
  go_wp2_with fail
  refine Calls.mono (Co16.out _) ?_
  rintro e v16 ⟨rfl, k16⟩
  have HK16 : Hid (Kept (fun _ => True) v0 v16) := HK15.out.trans k16
  clear k16 Co16 HK15
  go_wp2_with fail
  refine Calls.mono (Co18.out _) ?_
  rintro e v18 ⟨rfl, k18⟩
  have HK18 : Hid (Kept (fun _ => True) v0 v18) := HK16.out.trans k18
  clear k18 Co18 HK16
  have kg : Kept (fun _ => True) v18 (v18.alloc (.cells (List.toArray (.int .i64 o1.kind :: .string ⟨o1.cas.toArray⟩ :: .string ⟨o1.name.toArray⟩ :: .int .i64 o1.n :: .int .i64 o2.kind :: .string ⟨o2.cas.toArray⟩ :: .string ⟨o2.name.toArray⟩ :: .int .i64 o2.n :: .int .i64 o3.kind :: .string ⟨o3.cas.toArray⟩ :: .string ⟨o3.name.toArray⟩ :: .int .i64 o3.n :: .int .i64 o4.kind :: .string ⟨o4.cas.toArray⟩ :: .string ⟨o4.name.toArray⟩ :: .int .i64 o4.n :: .int .i64 o5.kind :: .string ⟨o5.cas.toArray⟩ :: .string ⟨o5.name.toArray⟩ :: .int .i64 o5.n :: .int .i64 o6.kind :: .string ⟨o6.cas.toArray⟩ :: .string ⟨o6.name.toArray⟩ :: .int .i64 o6.n :: .int .i64 o7.kind :: .string ⟨o7.cas.toArray⟩ :: .string ⟨o7.name.toArray⟩ :: .int .i64 o7.n :: .int .i64 o8.kind :: .string ⟨o8.cas.toArray⟩ :: .string ⟨o8.name.toArray⟩ :: .int .i64 o8.n :: .int .i64 o9.kind :: .string ⟨o9.cas.toArray⟩ :: .string ⟨o9.name.toArray⟩ :: .int .i64 o9.n :: .int .i64 o10.kind :: .string ⟨o10.cas.toArray⟩ :: .string ⟨o10.name.toArray⟩ :: .int .i64 o10.n :: .int .i64 o11.kind :: .string ⟨o11.cas.toArray⟩ :: .string ⟨o11.name.toArray⟩ :: .int .i64 o11.n :: .int .i64 o12.kind :: .string ⟨o12.cas.toArray⟩ :: .string ⟨o12.name.toArray⟩ :: .int .i64 o12.n :: .int .i64 o13.kind :: .string ⟨o13.cas.toArray⟩ :: .string ⟨o13.name.toArray⟩ :: .int .i64 o13.n :: .int .i64 o14.kind :: .string ⟨o14.cas.toArray⟩ :: .string ⟨o14.name.toArray⟩ :: .int .i64 o14.n :: .int .i64 o15.kind :: .string ⟨o15.cas.toArray⟩ :: .string ⟨o15.name.toArray⟩ :: .int .i64 o15.n :: .int .i64 o16.kind :: .string ⟨o16.cas.toArray⟩ :: .string ⟨o16.name.toArray⟩ :: .int .i64 o16.n :: .int .i64 9 :: .string ⟨#[]⟩ :: .string ⟨#[]⟩ :: .int .i64 0 :: .int .i64 o18.kind :: .string ⟨o18.cas.toArray⟩ :: .string ⟨o18.name.toArray⟩ :: .int .i64 o18.n :: [])) 34)) := (Kept.refl _ _).alloc _
  have HOv : Hid (Ov (v18.alloc (.cells (List.toArray (.int .i64 o1.kind :: .string ⟨o1.cas.toArray⟩ :: .string ⟨o1.name.toArray⟩ :: .int .i64 o1.n :: .int .i64 o2.kind :: .string ⟨o2.cas.toArray⟩ :: .string ⟨o2.name.toArray⟩ :: .int .i64 o2.n :: .int .i64 o3.kind :: .string ⟨o3.cas.toArray⟩ :: .string ⟨o3.name.toArray⟩ :: .int .i64 o3.n :: .int .i64 o4.kind :: .string ⟨o4.cas.toArray⟩ :: .string ⟨o4.name.toArray⟩ :: .int .i64 o4.n :: .int .i64 o5.kind :: .string ⟨o5.cas.toArray⟩ :: .string ⟨o5.name.toArray⟩ :: .int .i64 o5.n :: .int .i64 o6.kind :: .string ⟨o6.cas.toArray⟩ :: .string ⟨o6.name.toArray⟩ :: .int .i64 o6.n :: .int .i64 o7.kind :: .string ⟨o7.cas.toArray⟩ :: .string ⟨o7.name.toArray⟩ :: .int .i64 o7.n :: .int .i64 o8.kind :: .string ⟨o8.cas.toArray⟩ :: .string ⟨o8.name.toArray⟩ :: .int .i64 o8.n :: .int .i64 o9.kind :: .string ⟨o9.cas.toArray⟩ :: .string ⟨o9.name.toArray⟩ :: .int .i64 o9.n :: .int .i64 o10.kind :: .string ⟨o10.cas.toArray⟩ :: .string ⟨o10.name.toArray⟩ :: .int .i64 o10.n :: .int .i64 o11.kind :: .string ⟨o11.cas.toArray⟩ :: .string ⟨o11.name.toArray⟩ :: .int .i64 o11.n :: .int .i64 o12.kind :: .string ⟨o12.cas.toArray⟩ :: .string ⟨o12.name.toArray⟩ :: .int .i64 o12.n :: .int .i64 o13.kind :: .string ⟨o13.cas.toArray⟩ :: .string ⟨o13.name.toArray⟩ :: .int .i64 o13.n :: .int .i64 o14.kind :: .string ⟨o14.cas.toArray⟩ :: .string ⟨o14.name.toArray⟩ :: .int .i64 o14.n :: .int .i64 o15.kind :: .string ⟨o15.cas.toArray⟩ :: .string ⟨o15.name.toArray⟩ :: .int .i64 o15.n :: .int .i64 o16.kind :: .string ⟨o16.cas.toArray⟩ :: .string ⟨o16.name.toArray⟩ :: .int .i64 o16.n :: .int .i64 9 :: .string ⟨#[]⟩ :: .string ⟨#[]⟩ :: .int .i64 0 :: .int .i64 o18.kind :: .string ⟨o18.cas.toArray⟩ :: .string ⟨o18.name.toArray⟩ :: .int .i64 o18.n :: [])) 34)) (.slice (some ⟨v18.heap.size, 0, none⟩) 18 18) [o1, o2, o3, o4, o5, o6, o7, o8, o9, o10, o11, o12, o13, o14, o15, o16, ⟨9, [], [], 0⟩, o18]) := Ov.block (os := [o1, o2, o3, o4, o5, o6, o7, o8, o9, o10, o11, o12, o13, o14, o15, o16, ⟨9, [], [], 0⟩, o18]) (heap_alloc_new _ _) rfl (by simp) 18
  have HL6 : Hid (Lp w (v18.alloc (.cells (List.toArray (.int .i64 o1.kind :: .string ⟨o1.cas.toArray⟩ :: .string ⟨o1.name.toArray⟩ :: .int .i64 o1.n :: .int .i64 o2.kind :: .string ⟨o2.cas.toArray⟩ :: .string ⟨o2.name.toArray⟩ :: .int .i64 o2.n :: .int .i64 o3.kind :: .string ⟨o3.cas.toArray⟩ :: .string ⟨o3.name.toArray⟩ :: .int .i64 o3.n :: .int .i64 o4.kind :: .string ⟨o4.cas.toArray⟩ :: .string ⟨o4.name.toArray⟩ :: .int .i64 o4.n :: .int .i64 o5.kind :: .string ⟨o5.cas.toArray⟩ :: .string ⟨o5.name.toArray⟩ :: .int .i64 o5.n :: .int .i64 o6.kind :: .string ⟨o6.cas.toArray⟩ :: .string ⟨o6.name.toArray⟩ :: .int .i64 o6.n :: .int .i64 o7.kind :: .string ⟨o7.cas.toArray⟩ :: .string ⟨o7.name.toArray⟩ :: .int .i64 o7.n :: .int .i64 o8.kind :: .string ⟨o8.cas.toArray⟩ :: .string ⟨o8.name.toArray⟩ :: .int .i64 o8.n :: .int .i64 o9.kind :: .string ⟨o9.cas.toArray⟩ :: .string ⟨o9.name.toArray⟩ :: .int .i64 o9.n :: .int .i64 o10.kind :: .string ⟨o10.cas.toArray⟩ :: .string ⟨o10.name.toArray⟩ :: .int .i64 o10.n :: .int .i64 o11.kind :: .string ⟨o11.cas.toArray⟩ :: .string ⟨o11.name.toArray⟩ :: .int .i64 o11.n :: .int .i64 o12.kind :: .string ⟨o12.cas.toArray⟩ :: .string ⟨o12.name.toArray⟩ :: .int .i64 o12.n :: .int .i64 o13.kind :: .string ⟨o13.cas.toArray⟩ :: .string ⟨o13.name.toArray⟩ :: .int .i64 o13.n :: .int .i64 o14.kind :: .string ⟨o14.cas.toArray⟩ :: .string ⟨o14.name.toArray⟩ :: .int .i64 o14.n :: .int .i64 o15.kind :: .string ⟨o15.cas.toArray⟩ :: .string ⟨o15.name.toArray⟩ :: .int .i64 o15.n :: .int .i64 o16.kind :: .string ⟨o16.cas.toArray⟩ :: .string ⟨o16.name.toArray⟩ :: .int .i64 o16.n :: .int .i64 9 :: .string ⟨#[]⟩ :: .string ⟨#[]⟩ :: .int .i64 0 :: .int .i64 o18.kind :: .string ⟨o18.cas.toArray⟩ :: .string ⟨o18.name.toArray⟩ :: .int .i64 o18.n :: [])) 34)) t0 s1 T S R L aa sa ma an ac sn sc mn mc a1 a2 a3 c1 c2 c3 b1 b2 b3 d1 d2 d3) := HLp.out.all (HK18.out.trans kg)
  clear kg HLp HK18
  go_upto_region 5 with fail
  generalize v18.alloc (.cells (List.toArray (.int .i64 o1.kind :: .string ⟨o1.cas.toArray⟩ :: .string ⟨o1.name.toArray⟩ :: .int .i64 o1.n :: .int .i64 o2.kind :: .string ⟨o2.cas.toArray⟩ :: .string ⟨o2.name.toArray⟩ :: .int .i64 o2.n :: .int .i64 o3.kind :: .string ⟨o3.cas.toArray⟩ :: .string ⟨o3.name.toArray⟩ :: .int .i64 o3.n :: .int .i64 o4.kind :: .string ⟨o4.cas.toArray⟩ :: .string ⟨o4.name.toArray⟩ :: .int .i64 o4.n :: .int .i64 o5.kind :: .string ⟨o5.cas.toArray⟩ :: .string ⟨o5.name.toArray⟩ :: .int .i64 o5.n :: .int .i64 o6.kind :: .string ⟨o6.cas.toArray⟩ :: .string ⟨o6.name.toArray⟩ :: .int .i64 o6.n :: .int .i64 o7.kind :: .string ⟨o7.cas.toArray⟩ :: .string ⟨o7.name.toArray⟩ :: .int .i64 o7.n :: .int .i64 o8.kind :: .string ⟨o8.cas.toArray⟩ :: .string ⟨o8.name.toArray⟩ :: .int .i64 o8.n :: .int .i64 o9.kind :: .string ⟨o9.cas.toArray⟩ :: .string ⟨o9.name.toArray⟩ :: .int .i64 o9.n :: .int .i64 o10.kind :: .string ⟨o10.cas.toArray⟩ :: .string ⟨o10.name.toArray⟩ :: .int .i64 o10.n :: .int .i64 o11.kind :: .string ⟨o11.cas.toArray⟩ :: .string ⟨o11.name.toArray⟩ :: .int .i64 o11.n :: .int .i64 o12.kind :: .string ⟨o12.cas.toArray⟩ :: .string ⟨o12.name.toArray⟩ :: .int .i64 o12.n :: .int .i64 o13.kind :: .string ⟨o13.cas.toArray⟩ :: .string ⟨o13.name.toArray⟩ :: .int .i64 o13.n :: .int .i64 o14.kind :: .string ⟨o14.cas.toArray⟩ :: .string ⟨o14.name.toArray⟩ :: .int .i64 o14.n :: .int .i64 o15.kind :: .string ⟨o15.cas.toArray⟩ :: .string ⟨o15.name.toArray⟩ :: .int .i64 o15.n :: .int .i64 o16.kind :: .string ⟨o16.cas.toArray⟩ :: .string ⟨o16.name.toArray⟩ :: .int .i64 o16.n :: .int .i64 9 :: .string ⟨#[]⟩ :: .string ⟨#[]⟩ :: .int .i64 0 :: .int .i64 o18.kind :: .string ⟨o18.cas.toArray⟩ :: .string ⟨o18.name.toArray⟩ :: .int .i64 o18.n :: [])) 34) = w6 at *
  generalize v18.heap.size = G at *
  obtain ⟨os, hos⟩ : ∃ os : List Oq, os = [o1, o2, o3, o4, o5, o6, o7, o8, o9, o10, o11, o12, o13, o14, o15, o16, ⟨9, [], [], 0⟩, o18] := ⟨_, rfl⟩
  have HOl : Hid (os.length = 18) := by show _ = _; rw [hos]; rfl
  rw [← hos] at HOv HRun
  clear hos
  go_loopw [5, 6, 7, 8, 9, 10, 11, 39] (fun _ _ _ _ _ _ _ ti wr => ∃ (i : Nat) (s : Sa) (a1 a2 a3 b1 b2 b3 : Option Addr) (c1 c2 c3 d1 d2 d3 : Nat), i ≤ 18 ∧ ti = .int .i64 i ∧ s = runs t0 (os.take i) s1 ∧ Ov wr (.slice (some ⟨G, 0, none⟩) 18 18) os ∧ Lp w wr t0 s T S R L aa sa ma an ac sn sc mn mc a1 a2 a3 c1 c2 c3 b1 b2 b3 d1 d2 d3) (fun _ _ _ _ _ _ _ ti _ => 18 - (intOf ti).toNat)
  case atStart => exact ⟨0, s1, a1, a2, a3, b1, b2, b3, c1, c2, c3, d1, d2, d3, Nat.zero_le _, rfl, rfl, HOv.out, HL6.out⟩
  case round =>
  obtain ⟨i, s, a1, a2, a3, b1, b2, b3, c1, c2, c3, d1, d2, d3, hi, rfl, hs, hov, hlp⟩ := hrel
  have HLr : Hid (Lp w wr t0 s T S R L aa sa ma an ac sn sc mn mc a1 a2 a3 c1 c2 c3 b1 b2 b3 d1 d2 d3) := hlp
  have HOr : Hid (Ov wr (.slice (some ⟨G, 0, none⟩) 18 18) os) := hov
  have HSr : Hid (s = runs t0 (os.take i) s1) := hs
  clear hs HOv HL6
  by_cases hlt : i < 18
  · have hlo : i < os.length := by rw [HOl.out]; exact hlt
    obtain ⟨b, off, hbo, hb, q0, q1, q2, q3⟩ := hov.at i hlo
    cases hbo
    simp only [Nat.zero_add] at q0 q1 q2 q3
    have i1 : (i : Int) < 18 := by omega
    have i0 : (0 : Int) ≤ (i : Int) := by omega
    have HStep : Hid (runs t0 (os.take (i + 1)) s1 = oneP t0 s os[i]) := by show _ = _; rw [runs_step t0 os i hlo, ← HSr.out]
    generalize os[i] = op at *
    have ka : Kept (fun _ => True) wr (wr.alloc (.cells #[.int .i64 op.kind, .string ⟨op.cas.toArray⟩, .string ⟨op.name.toArray⟩, .int .i64 op.n] 34)) := (Kept.refl _ _).alloc _
    have HLa : Hid (Lp w _ t0 s T S R L aa sa ma an ac sn sc mn mc a1 a2 a3 c1 c2 c3 b1 b2 b3 d1 d2 d3) := hlp.all ka
    have HOa : Hid (Ov _ (.slice (some ⟨G, 0, none⟩) 18 18) os) := hov.all ka
    have HB5 : Hid _ := heap_alloc_new wr (.cells #[.int .i64 op.kind, .string ⟨op.cas.toArray⟩, .string ⟨op.name.toArray⟩, .int .i64 op.n] 34)
    clear hlp hov ka hb hlo
    go_upto_region 7 with fail
    generalize wr.alloc (.cells #[.int .i64 op.kind, .string ⟨op.cas.toArray⟩, .string ⟨op.name.toArray⟩, .int .i64 op.n] 34) = w7 at *
    generalize wr.heap.size = Q at *
    have hT5 := HLa.out.p.tbox
    have hS5 := HLa.out.p.sbox
    have hO5 := HB5.out
    clear q0 q1 q2 q3
    obtain ⟨⟨y0, y1, y2, y3⟩, _⟩ := four_cell hT5
    obtain ⟨⟨z0, z1, z2, z3⟩, _⟩ := four_cell hS5
    obtain ⟨⟨q0, q1, q2, q3⟩, _⟩ := four_cell hO5
    have cA := apply_to HLa.out.p.type HLa.out.p.state HG0.out HLa.out.p.fit (HTb.out.all HLa.out.p.kept) op
    unfold opV at cA
    have HFa : Hid ((applyP t0 s op).2.2 = 0 → Fit t0 (applyP t0 s op).1) := HLa.out.p.fit.apply op
    have HFw : Hid (Few (applyP t0 s op).1) := apply_few HG0.out HLa.out.p.fit op
    have HOne : Hid (oneP t0 s op = if (applyP t0 s op).2.2 = 0 then (applyP t0 s op).1 else s) := rfl
    have cB : Hid (∀ W, Kept (fun _ => True) w7 W → Calls Tryd.prog 18 #[.agg #[.string ⟨L.toArray⟩, .slice aa an ac, .slice sa sn sc, .slice ma mn mc], .agg #[.string ⟨s.type.toArray⟩, .slice b1 s.vals.length d1, .slice b2 s.done.length d2, .slice b3 s.got.length d3], .agg #[.int .i64 op.kind, .string ⟨op.cas.toArray⟩, .string ⟨op.name.toArray⟩, .int .i64 op.n]] W fun e w' => ∃ va vd vg, e = .returned (.tuple #[.agg #[.string ⟨(applyP t0 s op).1.type.toArray⟩, va, vd, vg], .string ⟨(applyP t0 s op).2.1.toArray⟩, .int .i64 ((applyP t0 s op).2.2 : Nat)]) ∧ So w' W.heap.size va vd vg (applyP t0 s op).1 ∧ Kept (fun _ => True) W w') := fun W q => rapply_to (HLa.out.p.type.all q) (StV.all HLa.out.rstate q) HG0.out HLa.out.p.fit op
    generalize applyP t0 s op = RR at *
    obtain ⟨X, tx, c⟩ := RR
    simp only at HFa HFw HOne cA cB
    clear hT5 hS5 hO5
    go_wp2_with fail
    refine Calls.mono cA ?_
    rintro e w8 ⟨va, vd, vg, rfl, hso, k8⟩
    obtain ⟨e1, l1, e2, l2, e3, l3, rfl, rfl, rfl⟩ := hso.shapes
    have kb : Kept (fun _ => True) w8 (w8.alloc (.cells #[.string ⟨X.type.toArray⟩, .slice e1 X.vals.length l1, .slice e2 X.done.length l2, .slice e3 X.got.length l3] 31)) := (Kept.refl _ _).alloc _
    have HBx1 : Hid _ := heap_alloc_new w8 (.cells #[.string ⟨X.type.toArray⟩, .slice e1 X.vals.length l1, .slice e2 X.done.length l2, .slice e3 X.got.length l3] 31)
    have HV1 : Hid (StV _ (.agg #[.string ⟨X.type.toArray⟩, .slice e1 X.vals.length l1, .slice e2 X.done.length l2, .slice e3 X.got.length l3]) X) := StV.all (hso.stv HFw.out) kb
    have K8 : Hid (Kept (fun _ => True) w7 (w8.alloc (.cells #[.string ⟨X.type.toArray⟩, .slice e1 X.vals.length l1, .slice e2 X.done.length l2, .slice e3 X.got.length l3] 31))) := k8.trans kb
    clear cA y0 y1 y2 y3 z0 z1 z2 z3 q0 q1 q2 q3 hso k8 kb
    go_upto_region 8 with fail
    generalize w8.alloc (.cells #[.string ⟨X.type.toArray⟩, .slice e1 X.vals.length l1, .slice e2 X.done.length l2, .slice e3 X.got.length l3] 31) = w9 at *
    generalize w8.heap.size = D1 at *
    have HLb : Hid (Lp w w9 t0 s T S R L aa sa ma an ac sn sc mn mc a1 a2 a3 c1 c2 c3 b1 b2 b3 d1 d2 d3) := HLa.out.all K8.out
    have HOb : Hid (Ov w9 (.slice (some ⟨G, 0, none⟩) 18 18) os) := HOa.out.all K8.out
    have hT5 := HLb.out.p.tbox
    have hS5 := HLb.out.rbox
    have hO5 := (K8.out.block _ (lt_of_block HB5.out) trivial).trans HB5.out
    obtain ⟨⟨y0, y1, y2, y3⟩, _⟩ := four_cell hT5
    obtain ⟨⟨z0, z1, z2, z3⟩, _⟩ := four_cell hS5
    obtain ⟨⟨q0, q1, q2, q3⟩, _⟩ := four_cell hO5
    have cC := cB.out _ K8.out
    have HSl : Hid (S < w9.heap.size) := lt_of_block HLb.out.p.sbox
    clear hT5 hS5 hO5 cB HB5 HLa HOa K8
    go_wp2_with fail
    refine Calls.mono cC ?_
    rintro e w10 ⟨va, vd, vg, rfl, hso, k10⟩
    obtain ⟨g1, m1, g2, m2, g3, m3, rfl, rfl, rfl⟩ := hso.shapes
    have kb : Kept (fun _ => True) w10 (w10.alloc (.cells #[.string ⟨X.type.toArray⟩, .slice g1 X.vals.length m1, .slice g2 X.done.length m2, .slice g3 X.got.length m3] 31)) := (Kept.refl _ _).alloc _
    have HBx2 : Hid _ := heap_alloc_new w10 (.cells #[.string ⟨X.type.toArray⟩, .slice g1 X.vals.length m1, .slice g2 X.done.length m2, .slice g3 X.got.length m3] 31)
    have HV2 : Hid (StV _ (.agg #[.string ⟨X.type.toArray⟩, .slice g1 X.vals.length m1, .slice g2 X.done.length m2, .slice g3 X.got.length m3]) X) := StV.all (hso.stv HFw.out) kb
    have K10 : Hid (Kept (fun _ => True) w9 (w10.alloc (.cells #[.string ⟨X.type.toArray⟩, .slice g1 X.vals.length m1, .slice g2 X.done.length m2, .slice g3 X.got.length m3] 31))) := k10.trans kb
    have HSl2 : Hid (S < w10.heap.size) := Nat.lt_of_lt_of_le HSl.out k10.size
    clear cC y0 y1 y2 y3 z0 z1 z2 z3 q0 q1 q2 q3 hso k10 kb
    go_upto_region 9 with fail
    generalize w10.alloc (.cells #[.string ⟨X.type.toArray⟩, .slice g1 X.vals.length m1, .slice g2 X.done.length m2, .slice g3 X.got.length m3] 31) = w11 at *
    generalize w10.heap.size = D2 at *
    have HLd : Hid (Lp w w11 t0 s T S R L aa sa ma an ac sn sc mn mc a1 a2 a3 c1 c2 c3 b1 b2 b3 d1 d2 d3) := HLb.out.all K10.out
    have HOd : Hid (Ov w11 (.slice (some ⟨G, 0, none⟩) 18 18) os) := HOb.out.all K10.out
    have HB1 : Hid (w11.heap[D1]? = some (.cells #[.string ⟨X.type.toArray⟩, .slice e1 X.vals.length l1, .slice e2 X.done.length l2, .slice e3 X.got.length l3] 31 (0, 0))) := (K10.out.block _ (lt_of_block HBx1.out) trivial).trans HBx1.out
    have HV1b : Hid (StV w11 (.agg #[.string ⟨X.type.toArray⟩, .slice e1 X.vals.length l1, .slice e2 X.done.length l2, .slice e3 X.got.length l3]) X) := StV.all HV1.out K10.out
    have hb1 := HB1.out
    have hb2 := HBx2.out
    obtain ⟨⟨x0, x1, x2, x3⟩, _⟩ := four_cell hb1
    obtain ⟨⟨v0, v1, v2, v3⟩, _⟩ := four_cell hb2
    have cst := state_same HV1b.out HV2.out HFw.out
    clear hb1 hb2 HLb HOb HBx1 HV1 K10
    go_wp2_with fail
    refine Calls.mono cst ?_
    rintro e w12 ⟨rfl, k12⟩
    have HL9 : Hid (Lp w w12 t0 s T S R L aa sa ma an ac sn sc mn mc a1 a2 a3 c1 c2 c3 b1 b2 b3 d1 d2 d3) := HLd.out.all k12
    have HO9 : Hid (Ov w12 (.slice (some ⟨G, 0, none⟩) 18 18) os) := HOd.out.all k12
    have HB91 : Hid (w12.heap[D1]? = some (.cells #[.string ⟨X.type.toArray⟩, .slice e1 X.vals.length l1, .slice e2 X.done.length l2, .slice e3 X.got.length l3] 31 (0, 0))) := (k12.block _ (lt_of_block HB1.out) trivial).trans HB1.out
    have HB92 : Hid (w12.heap[D2]? = some (.cells #[.string ⟨X.type.toArray⟩, .slice g1 X.vals.length m1, .slice g2 X.done.length m2, .slice g3 X.got.length m3] 31 (0, 0))) := (k12.block _ (lt_of_block HBx2.out) trivial).trans HBx2.out
    have HV91 : Hid (StV w12 (.agg #[.string ⟨X.type.toArray⟩, .slice e1 X.vals.length l1, .slice e2 X.done.length l2, .slice e3 X.got.length l3]) X) := StV.all HV1b.out k12
    have HV92 : Hid (StV w12 (.agg #[.string ⟨X.type.toArray⟩, .slice g1 X.vals.length m1, .slice g2 X.done.length m2, .slice g3 X.got.length m3]) X) := StV.all HV2.out k12
    clear cst x0 x1 x2 x3 v0 v1 v2 v3 k12 HB1 HBx2 HV1b HV2 HLd HOd
    by_cases hc0 : c = 0
    · subst hc0
      have hfit := HFa.out rfl
      have HNx : Hid (X = runs t0 (os.take (i + 1)) s1) := by show _ = _; rw [HStep.out, HOne.out, if_pos rfl]
      have HLx : Hid _ := HL9.out.put HV91.out HV92.out hfit
      have hq1 := HB91.out
      have hq2 := HL9.out.p.sbox
      obtain ⟨⟨x0, x1, x2, x3⟩, _⟩ := four_cell hq1
      obtain ⟨⟨z0, z1, z2, z3⟩, _⟩ := four_cell hq2
      have k1 := put4_kept (p := (· ≠ S)) (w := w12) (D := S) (by simp) (.string ⟨X.type.toArray⟩) (.slice e1 X.vals.length l1) (.slice e2 X.done.length l2) (.slice e3 X.got.length l3)
      have hDS : D2 ≠ S := fun e => by have h2 := HSl2.out; omega
      have hR9 := (k1.block R (lt_of_block HL9.out.rbox) (Ne.symm HL9.out.rlow.2.2)).trans HL9.out.rbox
      have hD9 := (k1.block D2 (lt_of_block HB92.out) hDS).trans HB92.out
      have HO10 : Hid (Ov (put4 w12 S (.string ⟨X.type.toArray⟩) (.slice e1 X.vals.length l1) (.slice e2 X.done.length l2) (.slice e3 X.got.length l3)) (.slice (some ⟨G, 0, none⟩) 18 18) os) := HO9.out.store hq2 k1
      have k2 := put4_kept (p := (· ≠ R)) (w := put4 w12 S (.string ⟨X.type.toArray⟩) (.slice e1 X.vals.length l1) (.slice e2 X.done.length l2) (.slice e3 X.got.length l3)) (D := R) (by simp) (.string ⟨X.type.toArray⟩) (.slice g1 X.vals.length m1) (.slice g2 X.done.length m2) (.slice g3 X.got.length m3)
      have HO11 : Hid (Ov (put4 (put4 w12 S (.string ⟨X.type.toArray⟩) (.slice e1 X.vals.length l1) (.slice e2 X.done.length l2) (.slice e3 X.got.length l3)) R (.string ⟨X.type.toArray⟩) (.slice g1 X.vals.length m1) (.slice g2 X.done.length m2) (.slice g3 X.got.length m3)) (.slice (some ⟨G, 0, none⟩) 18 18) os) := HO10.out.store hR9 k2
      have HR9 : Hid _ := hR9
      have HD9 : Hid _ := hD9
      clear hq1 hq2 hfit k1 k2 hDS hR9 hD9 HO10
      unfold put4 at HLx HR9 HD9 HO11
      go_upto_region 13 with fail
      generalize (((w12.setCell ⟨S, 0, none⟩ (.string ⟨X.type.toArray⟩)).setCell ⟨S, 1, none⟩ (.slice e1 X.vals.length l1)).setCell ⟨S, 2, none⟩ (.slice e2 X.done.length l2)).setCell ⟨S, 3, none⟩ (.slice e3 X.got.length l3) = w13 at *
      clear x0 x1 x2 x3 z0 z1 z2 z3
      have hq3 := HD9.out
      have hq4 := HR9.out
      obtain ⟨⟨x0, x1, x2, x3⟩, _⟩ := four_cell hq3
      obtain ⟨⟨z0, z1, z2, z3⟩, _⟩ := four_cell hq4
      clear hq3 hq4
      go_wp2_with fail
      go_roundw
      case rel => exact ⟨i + 1, X, e1, e2, e3, g1, g2, g3, l1, l2, l3, m1, m2, m3, by omega, by go_num, HNx.out, HO11.out, HLx.out⟩
      case measure => simp [intOf]; omega
    · have hc2 : ((c : Int) == 0) = false := by simp; omega
      have HNx : Hid (s = runs t0 (os.take (i + 1)) s1) := by show _ = _; rw [HStep.out, HOne.out, if_neg hc0]
      clear hc0
      go_wp2_with fail
      go_roundw
      case rel => exact ⟨i + 1, s, a1, a2, a3, b1, b2, b3, c1, c2, c3, d1, d2, d3, by omega, by go_num, HNx.out, HO9.out, HL9.out⟩
      case measure => simp [intOf]; omega
  have i1 : ¬ (i : Int) < 18 := by omega
  have hse : s = sE := by
    rw [HSr.out, List.take_of_length_le (by rw [HOl.out]; omega)]
    exact HRun.out
  subst hse
  have HZ1 : Hid (Fz wr (.agg #[.string ⟨L.toArray⟩, .slice aa an ac, .slice sa sn sc, .slice ma mn mc]) (.agg #[.string ⟨s.type.toArray⟩, .slice a1 s.vals.length c1, .slice a2 s.done.length c2, .slice a3 s.got.length c3]) true) := ⟨t0, s, hlp.p.type, HG0.out, hlp.p.state, fun _ => hlp.p.fit, fun _ => rfl⟩
  have HZ2 : Hid (Fz wr (.agg #[.string ⟨L.toArray⟩, .slice aa an ac, .slice sa sn sc, .slice ma mn mc]) (.agg #[.string ⟨#[]⟩, .slice none 0 0, .slice none 0 0, .slice none 0 0]) false) := ⟨t0, Sa.none, hlp.p.type, HG0.out, StV.none wr, fun h => (by cases h), fun h => absurd h HNo0.out⟩
  have HC1 : Hid (∀ W, Kept (fun _ => True) wr W → Calls Tryd.prog 20 #[.agg #[.string ⟨L.toArray⟩, .slice aa an ac, .slice sa sn sc, .slice ma mn mc], .agg #[.string ⟨s.type.toArray⟩, .slice a1 s.vals.length c1, .slice a2 s.done.length c2, .slice a3 s.got.length c3]] W fun e w' => e = .returned (.string ⟨#[108, 111, 97, 110, 32, 115, 117, 109, 61, 48, 32, 114, 105, 115, 107, 61, 45, 49, 48, 32, 43, 99, 104, 101, 99, 107, 32, 43, 112, 97, 121, 32, 42, 112, 97, 105, 100, 32, 42, 98, 105, 103, 32, 42, 98, 111, 116, 104]⟩) ∧ Kept (fun _ => True) W w') := fun W q => by
    have := text_any (HLr.out.p.type.all q) (HLr.out.p.state.all q) HG0.out HLr.out.p.fit (HTb.out.all (HLr.out.p.kept.trans q)) (text_short HG0.out HLr.out.p.fit)
    rw [HTx.out] at this
    exact this
  have HC2 : Hid (∀ W, Kept (fun _ => True) wr W → Calls Tryd.prog 21 #[.agg #[.string ⟨L.toArray⟩, .slice aa an ac, .slice sa sn sc, .slice ma mn mc], .agg #[.string ⟨s.type.toArray⟩, .slice a1 s.vals.length c1, .slice a2 s.done.length c2, .slice a3 s.got.length c3]] W fun e w' => ∃ ao cap, e = .returned (.slice ao 0 cap) ∧ Kept (fun _ => True) W w') := fun W q => by
    have := readys_any (HLr.out.p.type.all q) (HLr.out.p.state.all q) HG0.out HLr.out.p.fit
    rw [HRd.out] at this
    refine this.mono fun e w' ⟨v, he, ht, k⟩ => ?_
    obtain ⟨ao, cap, rfl, _, _⟩ := ht.shape
    exact ⟨ao, cap, he, k⟩
  have HC3 : Hid (∀ W, Kept (fun _ => True) wr W → Calls Tryd.prog 23 #[] W fun e w' => e = .returned (.bool true) ∧ Kept (fun _ => True) W w') := fun W q => known_any (HTb.out.all (HLr.out.p.kept.trans q))
  have hT5 := hlp.p.tbox
  have hS5 := hlp.p.sbox
  obtain ⟨⟨y0, y1, y2, y3⟩, _⟩ := four_cell hT5
  obtain ⟨⟨z0, z1, z2, z3⟩, _⟩ := four_cell hS5
  have Y0 := fun W (q : Kept (fun _ => True) wr W) => (kept_cell q (lt_of_block hT5) trivial).trans y0
  have Y1 := fun W (q : Kept (fun _ => True) wr W) => (kept_cell q (lt_of_block hT5) trivial).trans y1
  have Y2 := fun W (q : Kept (fun _ => True) wr W) => (kept_cell q (lt_of_block hT5) trivial).trans y2
  have Y3 := fun W (q : Kept (fun _ => True) wr W) => (kept_cell q (lt_of_block hT5) trivial).trans y3
  have Z0 := fun W (q : Kept (fun _ => True) wr W) => (kept_cell q (lt_of_block hS5) trivial).trans z0
  have Z1 := fun W (q : Kept (fun _ => True) wr W) => (kept_cell q (lt_of_block hS5) trivial).trans z1
  have Z2 := fun W (q : Kept (fun _ => True) wr W) => (kept_cell q (lt_of_block hS5) trivial).trans z2
  have Z3 := fun W (q : Kept (fun _ => True) wr W) => (kept_cell q (lt_of_block hS5) trivial).trans z3
  have kd : Kept (fun _ => True) wr wr.drew := (Kept.refl _ _).drew
  clear y0 y1 y2 y3 z0 z1 z2 z3 hT5 hS5 hlp hov
  go_upto_region 15 with fail
  refine Gz.begin (fun W => Kept (fun _ => True) wr W) (fun _ => false) (by kernel_rfl) ?_
  refine Gz.take (i := 0) (oi := { dst := some 78, op := Op.load 25 (Operand.tmp 1), type := 25, pos := _, after := #[], guard := none }) (v := ?_) rfl (by kernel_rfl) (by kernel_rfl) (by kernel_rfl) (by kernel_rfl) (fun _ _ _ h => h) (Or.inl ⟨by rfl, ?hy0⟩) kd ?_
  case hy0 => (intro W hSw; (try dsimp only at hSw); go_simp; try with_reducible rfl)
  try simp only [Act.put, List.setIfInBounds_toArray, List.set_cons_zero, List.set_cons_succ]
  refine Gz.take (i := 1) (oi := { dst := some 79, op := Op.load 31 (Operand.tmp 2), type := 31, pos := _, after := #[], guard := none }) (v := ?_) rfl (by kernel_rfl) (by kernel_rfl) (by kernel_rfl) (by kernel_rfl) (fun _ _ _ h => h) (Or.inl ⟨by rfl, ?hy1⟩) kd ?_
  case hy1 => (intro W hSw; (try dsimp only at hSw); go_simp; try with_reducible rfl)
  try simp only [Act.put, List.setIfInBounds_toArray, List.set_cons_zero, List.set_cons_succ]
  refine Gz.one (i := 2) (o := { dst := some 80, op := Op.call { callee := Callee.value (Operand.func 20), args := #[Operand.tmp 78, Operand.tmp 79], argTypes := #[25, 31] }, type := 9, pos := _, after := #[{ on := 0, ground := Ground.data }, { on := 1, ground := Ground.data }], guard := none }) (by kernel_rfl) rfl (fun K hK => ?_)
  go_simp
  refine Calls.mono (HC1.out _ kd) ?_
  rintro e u1 ⟨rfl, mu1⟩
  have pu1 : Kept (fun _ => True) wr u1 := Kept.trans kd mu1
  try go_wp2_with fail
  refine hK.out _ _ (fun hEarly => pu1) ?_
  clear hK K
  try simp only [Act.put, List.setIfInBounds_toArray, List.set_cons_zero, List.set_cons_succ]
  refine Gz.take (i := 3) (oi := { dst := some 81, op := Op.binOp BinOp.eql 9 (Operand.tmp 80) (Operand.const (Value.string { data := #[108, 111, 97, 110, 32, 115, 117, 109, 61, 48, 32, 114, 105, 115, 107, 61, 45, 49, 48, 32, 43, 99, 104, 101, 99, 107, 32, 43, 112, 97, 121, 32, 42, 112, 97, 105, 100, 32, 42, 98, 105, 103, 32, 42, 98, 111, 116, 104] })) 9, type := 4, pos := _, after := #[{ on := 2, ground := Ground.data }], guard := none }) (v := ?_) rfl (by kernel_rfl) (by kernel_rfl) (by kernel_rfl) (by kernel_rfl) (fun _ _ _ h => h) (Or.inl ⟨by rfl, ?hy3⟩) pu1 ?_
  case hy3 => (intro W hSw; (try dsimp only at hSw); go_simp; try with_reducible rfl)
  try simp only [Act.put, List.setIfInBounds_toArray, List.set_cons_zero, List.set_cons_succ]
  refine Gz.take (i := 4) (oi := { dst := some 82, op := Op.move (Operand.tmp 81), type := 4, pos := _, after := #[{ on := 3, ground := Ground.data }, { on := 2, ground := Ground.chain }], guard := none }) (v := ?_) rfl (by kernel_rfl) (by kernel_rfl) (by kernel_rfl) (by kernel_rfl) (fun _ _ _ h => h) (Or.inl ⟨by rfl, ?hy4⟩) pu1 ?_
  case hy4 => (intro W hSw; (try dsimp only at hSw); go_simp; try with_reducible rfl)
  try simp only [Act.put, List.setIfInBounds_toArray, List.set_cons_zero, List.set_cons_succ]
  refine Gz.take (i := 5) (oi := { dst := some 83, op := Op.load 25 (Operand.tmp 1), type := 25, pos := _, after := #[{ on := 4, ground := Ground.guard }], guard := some (4, true) }) (v := ?_) rfl (by kernel_rfl) (by kernel_rfl) (by kernel_rfl) (by kernel_rfl) (fun _ _ _ h => h) (Or.inl ⟨by rfl, ?hy5⟩) pu1 ?_
  case hy5 => (intro W hSw; (try dsimp only at hSw); go_simp; try with_reducible rfl)
  try simp only [Act.put, List.setIfInBounds_toArray, List.set_cons_zero, List.set_cons_succ]
  refine Gz.take (i := 6) (oi := { dst := some 84, op := Op.load 31 (Operand.tmp 2), type := 31, pos := _, after := #[{ on := 4, ground := Ground.guard }], guard := some (4, true) }) (v := ?_) rfl (by kernel_rfl) (by kernel_rfl) (by kernel_rfl) (by kernel_rfl) (fun _ _ _ h => h) (Or.inl ⟨by rfl, ?hy6⟩) pu1 ?_
  case hy6 => (intro W hSw; (try dsimp only at hSw); go_simp; try with_reducible rfl)
  try simp only [Act.put, List.setIfInBounds_toArray, List.set_cons_zero, List.set_cons_succ]
  refine Gz.one (i := 7) (o := { dst := some 85, op := Op.call { callee := Callee.value (Operand.func 21), args := #[Operand.tmp 83, Operand.tmp 84], argTypes := #[25, 31] }, type := 46, pos := _, after := #[{ on := 5, ground := Ground.data }, { on := 6, ground := Ground.data }, { on := 4, ground := Ground.chain }, { on := 4, ground := Ground.guard }], guard := some (4, true) }) (by kernel_rfl) rfl (fun K hK => ?_)
  go_simp
  refine Calls.mono (HC2.out _ pu1) ?_
  rintro e u2 ⟨ra, rc, rfl, mu2⟩
  have pu2 : Kept (fun _ => True) wr u2 := Kept.trans pu1 mu2
  try go_wp2_with fail
  refine hK.out _ _ (fun hEarly => pu2) ?_
  clear hK K
  try simp only [Act.put, List.setIfInBounds_toArray, List.set_cons_zero, List.set_cons_succ]
  refine Gz.take (i := 8) (oi := { dst := some 86, op := Op.call { callee := Callee.builtin Builtin.len, args := #[Operand.tmp 85], argTypes := #[46] }, type := 3, pos := _, after := #[{ on := 7, ground := Ground.data }, { on := 4, ground := Ground.guard }], guard := some (4, true) }) (v := ?_) rfl (by kernel_rfl) (by kernel_rfl) (by kernel_rfl) (by kernel_rfl) (fun _ _ _ h => h) (Or.inl ⟨by rfl, ?hy8⟩) pu2 ?_
  case hy8 => (intro W hSw; (try dsimp only at hSw); go_simp; try with_reducible rfl)
  try simp only [Act.put, List.setIfInBounds_toArray, List.set_cons_zero, List.set_cons_succ]
  refine Gz.take (i := 9) (oi := { dst := some 87, op := Op.binOp BinOp.eql 3 (Operand.tmp 86) (Operand.const (Value.int IntKind.i64 0)) 3, type := 4, pos := _, after := #[{ on := 8, ground := Ground.data }, { on := 4, ground := Ground.guard }], guard := some (4, true) }) (v := ?_) rfl (by kernel_rfl) (by kernel_rfl) (by kernel_rfl) (by kernel_rfl) (fun _ _ _ h => h) (Or.inl ⟨by rfl, ?hy9⟩) pu2 ?_
  case hy9 => (intro W hSw; (try dsimp only at hSw); go_simp; try with_reducible rfl)
  try simp only [Act.put, List.setIfInBounds_toArray, List.set_cons_zero, List.set_cons_succ]
  refine Gz.take (i := 10) (oi := { dst := some 88, op := Op.pick (Operand.tmp 82) (Operand.tmp 87) (Operand.const (Value.bool false)), type := 4, pos := _, after := #[{ on := 4, ground := Ground.data }, { on := 9, ground := Ground.data }], guard := none }) (v := ?_) rfl (by kernel_rfl) (by kernel_rfl) (by kernel_rfl) (by kernel_rfl) (fun _ _ _ h => h) (Or.inl ⟨by rfl, ?hy10⟩) pu2 ?_
  case hy10 => (intro W hSw; (try dsimp only at hSw); go_simp; try with_reducible rfl)
  try simp only [Act.put, List.setIfInBounds_toArray, List.set_cons_zero, List.set_cons_succ]
  refine Gz.take (i := 11) (oi := { dst := some 89, op := Op.move (Operand.tmp 88), type := 4, pos := _, after := #[{ on := 10, ground := Ground.data }, { on := 7, ground := Ground.chain }], guard := none }) (v := ?_) rfl (by kernel_rfl) (by kernel_rfl) (by kernel_rfl) (by kernel_rfl) (fun _ _ _ h => h) (Or.inl ⟨by rfl, ?hy11⟩) pu2 ?_
  case hy11 => (intro W hSw; (try dsimp only at hSw); go_simp; try with_reducible rfl)
  try simp only [Act.put, List.setIfInBounds_toArray, List.set_cons_zero, List.set_cons_succ]
  refine Gz.take (i := 12) (oi := { dst := some 90, op := Op.load 25 (Operand.tmp 1), type := 25, pos := _, after := #[{ on := 11, ground := Ground.guard }], guard := some (11, true) }) (v := ?_) rfl (by kernel_rfl) (by kernel_rfl) (by kernel_rfl) (by kernel_rfl) (fun _ _ _ h => h) (Or.inl ⟨by rfl, ?hy12⟩) pu2 ?_
  case hy12 => (intro W hSw; (try dsimp only at hSw); go_simp; try with_reducible rfl)
  try simp only [Act.put, List.setIfInBounds_toArray, List.set_cons_zero, List.set_cons_succ]
  refine Gz.take (i := 13) (oi := { dst := some 91, op := Op.load 31 (Operand.tmp 2), type := 31, pos := _, after := #[{ on := 11, ground := Ground.guard }], guard := some (11, true) }) (v := ?_) rfl (by kernel_rfl) (by kernel_rfl) (by kernel_rfl) (by kernel_rfl) (fun _ _ _ h => h) (Or.inl ⟨by rfl, ?hy13⟩) pu2 ?_
  case hy13 => (intro W hSw; (try dsimp only at hSw); go_simp; try with_reducible rfl)
  try simp only [Act.put, List.setIfInBounds_toArray, List.set_cons_zero, List.set_cons_succ]
  refine Gz.one (i := 14) (o := { dst := some 92, op := Op.call { callee := Callee.value (Operand.func 22), args := #[Operand.tmp 90, Operand.tmp 91], argTypes := #[25, 31] }, type := 4, pos := _, after := #[{ on := 12, ground := Ground.data }, { on := 13, ground := Ground.data }, { on := 11, ground := Ground.chain }, { on := 11, ground := Ground.guard }], guard := some (11, true) }) (by kernel_rfl) rfl (fun K hK => ?_)
  go_simp
  refine Calls.mono (fits_z HZ1.out _ pu2) ?_
  rintro e u3 ⟨rfl, mu3⟩
  have pu3 : Kept (fun _ => True) wr u3 := Kept.trans pu2 mu3
  try go_wp2_with fail
  refine hK.out _ _ (fun hEarly => pu3) ?_
  clear hK K
  try simp only [Act.put, List.setIfInBounds_toArray, List.set_cons_zero, List.set_cons_succ]
  refine Gz.take (i := 15) (oi := { dst := some 93, op := Op.pick (Operand.tmp 89) (Operand.tmp 92) (Operand.const (Value.bool false)), type := 4, pos := _, after := #[{ on := 11, ground := Ground.data }, { on := 14, ground := Ground.data }], guard := none }) (v := ?_) rfl (by kernel_rfl) (by kernel_rfl) (by kernel_rfl) (by kernel_rfl) (fun _ _ _ h => h) (Or.inl ⟨by rfl, ?hy15⟩) pu3 ?_
  case hy15 => (intro W hSw; (try dsimp only at hSw); go_simp; try with_reducible rfl)
  try simp only [Act.put, List.setIfInBounds_toArray, List.set_cons_zero, List.set_cons_succ]
  refine Gz.take (i := 16) (oi := { dst := some 94, op := Op.move (Operand.tmp 93), type := 4, pos := _, after := #[{ on := 15, ground := Ground.data }, { on := 14, ground := Ground.chain }], guard := none }) (v := ?_) rfl (by kernel_rfl) (by kernel_rfl) (by kernel_rfl) (by kernel_rfl) (fun _ _ _ h => h) (Or.inl ⟨by rfl, ?hy16⟩) pu3 ?_
  case hy16 => (intro W hSw; (try dsimp only at hSw); go_simp; try with_reducible rfl)
  try simp only [Act.put, List.setIfInBounds_toArray, List.set_cons_zero, List.set_cons_succ]
  refine Gz.take (i := 17) (oi := { dst := some 95, op := Op.load 25 (Operand.tmp 1), type := 25, pos := _, after := #[{ on := 16, ground := Ground.guard }], guard := some (16, true) }) (v := ?_) rfl (by kernel_rfl) (by kernel_rfl) (by kernel_rfl) (by kernel_rfl) (fun _ _ _ h => h) (Or.inl ⟨by rfl, ?hy17⟩) pu3 ?_
  case hy17 => (intro W hSw; (try dsimp only at hSw); go_simp; try with_reducible rfl)
  try simp only [Act.put, List.setIfInBounds_toArray, List.set_cons_zero, List.set_cons_succ]
  refine Gz.take (i := 18) (oi := { dst := some 96, op := Op.build 31 #[], type := 31, pos := _, after := #[{ on := 16, ground := Ground.guard }], guard := some (16, true) }) (v := ?_) rfl (by kernel_rfl) (by kernel_rfl) (by kernel_rfl) (by kernel_rfl) (fun _ _ _ h => h) (Or.inl ⟨by rfl, ?hy18⟩) pu3 ?_
  case hy18 => (intro W hSw; (try dsimp only at hSw); go_simp; try with_reducible rfl)
  try simp only [Act.put, List.setIfInBounds_toArray, List.set_cons_zero, List.set_cons_succ]
  refine Gz.one (i := 19) (o := { dst := some 97, op := Op.call { callee := Callee.value (Operand.func 22), args := #[Operand.tmp 95, Operand.tmp 96], argTypes := #[25, 31] }, type := 4, pos := _, after := #[{ on := 17, ground := Ground.data }, { on := 18, ground := Ground.data }, { on := 16, ground := Ground.chain }, { on := 16, ground := Ground.guard }], guard := some (16, true) }) (by kernel_rfl) rfl (fun K hK => ?_)
  go_simp
  refine Calls.mono (fits_z HZ2.out _ pu3) ?_
  rintro e u4 ⟨rfl, mu4⟩
  have pu4 : Kept (fun _ => True) wr u4 := Kept.trans pu3 mu4
  try go_wp2_with fail
  refine hK.out _ _ (fun hEarly => pu4) ?_
  clear hK K
  try simp only [Act.put, List.setIfInBounds_toArray, List.set_cons_zero, List.set_cons_succ]
  refine Gz.take (i := 20) (oi := { dst := some 98, op := Op.unOp UnOp.not 4 (Operand.tmp 97), type := 4, pos := _, after := #[{ on := 19, ground := Ground.data }, { on := 16, ground := Ground.guard }], guard := some (16, true) }) (v := ?_) rfl (by kernel_rfl) (by kernel_rfl) (by kernel_rfl) (by kernel_rfl) (fun _ _ _ h => h) (Or.inl ⟨by rfl, ?hy20⟩) pu4 ?_
  case hy20 => (intro W hSw; (try dsimp only at hSw); go_simp; try with_reducible rfl)
  try simp only [Act.put, List.setIfInBounds_toArray, List.set_cons_zero, List.set_cons_succ]
  refine Gz.take (i := 21) (oi := { dst := some 99, op := Op.pick (Operand.tmp 94) (Operand.tmp 98) (Operand.const (Value.bool false)), type := 4, pos := _, after := #[{ on := 16, ground := Ground.data }, { on := 20, ground := Ground.data }], guard := none }) (v := ?_) rfl (by kernel_rfl) (by kernel_rfl) (by kernel_rfl) (by kernel_rfl) (fun _ _ _ h => h) (Or.inl ⟨by rfl, ?hy21⟩) pu4 ?_
  case hy21 => (intro W hSw; (try dsimp only at hSw); go_simp; try with_reducible rfl)
  try simp only [Act.put, List.setIfInBounds_toArray, List.set_cons_zero, List.set_cons_succ]
  refine Gz.take (i := 22) (oi := { dst := some 100, op := Op.move (Operand.tmp 99), type := 4, pos := _, after := #[{ on := 21, ground := Ground.data }, { on := 19, ground := Ground.chain }], guard := none }) (v := ?_) rfl (by kernel_rfl) (by kernel_rfl) (by kernel_rfl) (by kernel_rfl) (fun _ _ _ h => h) (Or.inl ⟨by rfl, ?hy22⟩) pu4 ?_
  case hy22 => (intro W hSw; (try dsimp only at hSw); go_simp; try with_reducible rfl)
  try simp only [Act.put, List.setIfInBounds_toArray, List.set_cons_zero, List.set_cons_succ]
  refine Gz.take (i := 26) (oi := { dst := some 104, op := Op.load 31 (Operand.tmp 2), type := 31, pos := _, after := #[{ on := 22, ground := Ground.guard }], guard := some (22, true) }) (v := ?_) rfl (by kernel_rfl) (by kernel_rfl) (by kernel_rfl) (by kernel_rfl) (fun _ _ _ h => h) (Or.inl ⟨by rfl, ?hy26⟩) pu4 ?_
  case hy26 => (intro W hSw; (try dsimp only at hSw); go_simp; try with_reducible rfl)
  try simp only [Act.put, List.setIfInBounds_toArray, List.set_cons_zero, List.set_cons_succ]
  refine Gz.one (i := 23) (o := { dst := some 101, op := Op.call { callee := Callee.value (Operand.func 9), args := #[], argTypes := #[] }, type := 26, pos := _, after := #[{ on := 22, ground := Ground.chain }, { on := 22, ground := Ground.guard }], guard := some (22, true) }) (by kernel_rfl) rfl (fun K hK => ?_)
  go_simp
  refine Calls.mono (HTp.out _) ?_
  rintro e u5 ⟨g, a, s2, m, b, rfl, hg, _, hty, mu5⟩
  have HG5 : Hid _ := hg
  have HTy5 : Hid (TyV u5 (.agg #[.string ⟨t1.name.toArray⟩, b, .slice none 0 0, .slice none 0 0]) t1) := hty
  clear hg hty
  have pu5 : Kept (fun _ => True) wr u5 := Kept.trans pu4 mu5
  try go_wp2_with fail
  refine hK.out _ _ (fun hEarly => pu5) ?_
  clear hK K
  try simp only [Act.put, List.setIfInBounds_toArray, List.set_cons_zero, List.set_cons_succ]
  refine Gz.take (i := 24) (oi := { dst := some 102, op := Op.indexAddr 26 (Operand.tmp 101) (Operand.const (Value.int IntKind.i64 1)), type := 0, pos := _, after := #[{ on := 23, ground := Ground.data }, { on := 22, ground := Ground.guard }], guard := some (22, true) }) (v := ?_) rfl (by kernel_rfl) (by kernel_rfl) (by kernel_rfl) (by kernel_rfl) (fun _ _ _ h => h) (Or.inl ⟨by rfl, ?hy24⟩) pu5 ?_
  case hy24 => (intro W hSw; (try dsimp only at hSw); go_simp; try with_reducible rfl)
  try simp only [Act.put, List.setIfInBounds_toArray, List.set_cons_zero, List.set_cons_succ]
  obtain ⟨ba, bn, bc, _, _, _, _, _, _, he⟩ := HTy5.out.parts
  simp only [Value.agg.injEq, Array.mk.injEq, List.cons.injEq, and_true, true_and] at he
  obtain ⟨rfl, -, -⟩ := he
  have hg5 := HG5.out
  have c4 : u5.cell? ⟨g, 4, none⟩ = some (.string ⟨t1.name.toArray⟩) := by simp [World.cell?, hg5]
  have c5 : u5.cell? ⟨g, 5, none⟩ = some (.slice ba bn bc) := by simp [World.cell?, hg5]
  have c6 : u5.cell? ⟨g, 6, none⟩ = some (.slice none 0 0) := by simp [World.cell?, hg5]
  have c7 : u5.cell? ⟨g, 7, none⟩ = some (.slice none 0 0) := by simp [World.cell?, hg5]
  have HZ3 : Hid (Fz u5 (.agg #[.string ⟨t1.name.toArray⟩, .slice ba bn bc, .slice none 0 0, .slice none 0 0]) (.agg #[.string ⟨s.type.toArray⟩, .slice a1 s.vals.length c1, .slice a2 s.done.length c2, .slice a3 s.got.length c3]) false) := ⟨t1, s, HTy5.out, HG1.out, StV.all HLr.out.p.state pu5, fun h => (by cases h), fun h => absurd h HNo1.out⟩
  clear hg5
  refine Gz.one (i := 25) (o := { dst := some 103, op := Op.load 25 (Operand.tmp 102), type := 25, pos := _, after := #[{ on := 24, ground := Ground.data }, { on := 22, ground := Ground.guard }], guard := some (22, true) }) (by kernel_rfl) rfl (fun K hK => ?_)
  go_simp
  refine hK.out _ _ (fun hEarly => pu5) ?_
  clear hK K
  try simp only [Act.put, List.setIfInBounds_toArray, List.set_cons_zero, List.set_cons_succ]
  clear c4 c5 c6 c7
  refine Gz.one (i := 27) (o := { dst := some 105, op := Op.call { callee := Callee.value (Operand.func 22), args := #[Operand.tmp 103, Operand.tmp 104], argTypes := #[25, 31] }, type := 4, pos := _, after := #[{ on := 25, ground := Ground.data }, { on := 26, ground := Ground.data }, { on := 23, ground := Ground.chain }, { on := 22, ground := Ground.guard }], guard := some (22, true) }) (by kernel_rfl) rfl (fun K hK => ?_)
  go_simp
  refine Calls.mono (fits_z HZ3.out _ (Kept.refl _ _)) ?_
  rintro e u6 ⟨rfl, mu6⟩
  have pu6 : Kept (fun _ => True) wr u6 := Kept.trans pu5 mu6
  try go_wp2_with fail
  refine hK.out _ _ (fun hEarly => pu6) ?_
  clear hK K
  try simp only [Act.put, List.setIfInBounds_toArray, List.set_cons_zero, List.set_cons_succ]
  refine Gz.take (i := 28) (oi := { dst := some 106, op := Op.unOp UnOp.not 4 (Operand.tmp 105), type := 4, pos := _, after := #[{ on := 27, ground := Ground.data }, { on := 22, ground := Ground.guard }], guard := some (22, true) }) (v := ?_) rfl (by kernel_rfl) (by kernel_rfl) (by kernel_rfl) (by kernel_rfl) (fun _ _ _ h => h) (Or.inl ⟨by rfl, ?hy28⟩) pu6 ?_
  case hy28 => (intro W hSw; (try dsimp only at hSw); go_simp; try with_reducible rfl)
  try simp only [Act.put, List.setIfInBounds_toArray, List.set_cons_zero, List.set_cons_succ]
  refine Gz.take (i := 29) (oi := { dst := some 107, op := Op.pick (Operand.tmp 100) (Operand.tmp 106) (Operand.const (Value.bool false)), type := 4, pos := _, after := #[{ on := 22, ground := Ground.data }, { on := 28, ground := Ground.data }], guard := none }) (v := ?_) rfl (by kernel_rfl) (by kernel_rfl) (by kernel_rfl) (by kernel_rfl) (fun _ _ _ h => h) (Or.inl ⟨by rfl, ?hy29⟩) pu6 ?_
  case hy29 => (intro W hSw; (try dsimp only at hSw); go_simp; try with_reducible rfl)
  try simp only [Act.put, List.setIfInBounds_toArray, List.set_cons_zero, List.set_cons_succ]
  refine Gz.take (i := 30) (oi := { dst := some 108, op := Op.move (Operand.tmp 107), type := 4, pos := _, after := #[{ on := 29, ground := Ground.data }, { on := 27, ground := Ground.chain }], guard := none }) (v := ?_) rfl (by kernel_rfl) (by kernel_rfl) (by kernel_rfl) (by kernel_rfl) (fun _ _ _ h => h) (Or.inl ⟨by rfl, ?hy30⟩) pu6 ?_
  case hy30 => (intro W hSw; (try dsimp only at hSw); go_simp; try with_reducible rfl)
  try simp only [Act.put, List.setIfInBounds_toArray, List.set_cons_zero, List.set_cons_succ]
  refine Gz.one (i := 31) (o := { dst := some 109, op := Op.call { callee := Callee.value (Operand.func 23), args := #[], argTypes := #[] }, type := 4, pos := _, after := #[{ on := 30, ground := Ground.chain }, { on := 30, ground := Ground.guard }], guard := some (30, true) }) (by kernel_rfl) rfl (fun K hK => ?_)
  go_simp
  refine Calls.mono (HC3.out _ pu6) ?_
  rintro e u7 ⟨rfl, mu7⟩
  have pu7 : Kept (fun _ => True) wr u7 := Kept.trans pu6 mu7
  try go_wp2_with fail
  refine hK.out _ _ (fun hEarly => pu7) ?_
  clear hK K
  try simp only [Act.put, List.setIfInBounds_toArray, List.set_cons_zero, List.set_cons_succ]
  refine Gz.take (i := 32) (oi := { dst := some 110, op := Op.pick (Operand.tmp 108) (Operand.tmp 109) (Operand.const (Value.bool false)), type := 4, pos := _, after := #[{ on := 30, ground := Ground.data }, { on := 31, ground := Ground.data }], guard := none }) (v := ?_) rfl (by kernel_rfl) (by kernel_rfl) (by kernel_rfl) (by kernel_rfl) (fun _ _ _ h => h) (Or.inl ⟨by rfl, ?hy32⟩) pu7 ?_
  case hy32 => (intro W hSw; (try dsimp only at hSw); go_simp; try with_reducible rfl)
  try simp only [Act.put, List.setIfInBounds_toArray, List.set_cons_zero, List.set_cons_succ]
  refine Gz.one (i := 33) (o := { dst := some 0, op := Op.assign (Operand.tmp 110), type := 4, pos := _, after := #[{ on := 32, ground := Ground.data }, { on := 31, ground := Ground.chain }, { on := 0, ground := Ground.phase }, { on := 1, ground := Ground.phase }, { on := 2, ground := Ground.phase }, { on := 3, ground := Ground.phase }, { on := 4, ground := Ground.phase }, { on := 5, ground := Ground.phase }, { on := 6, ground := Ground.phase }, { on := 7, ground := Ground.phase }, { on := 8, ground := Ground.phase }, { on := 9, ground := Ground.phase }, { on := 10, ground := Ground.phase }, { on := 11, ground := Ground.phase }, { on := 12, ground := Ground.phase }, { on := 13, ground := Ground.phase }, { on := 14, ground := Ground.phase }, { on := 15, ground := Ground.phase }, { on := 16, ground := Ground.phase }, { on := 17, ground := Ground.phase }, { on := 18, ground := Ground.phase }, { on := 19, ground := Ground.phase }, { on := 20, ground := Ground.phase }, { on := 21, ground := Ground.phase }, { on := 22, ground := Ground.phase }, { on := 23, ground := Ground.phase }, { on := 24, ground := Ground.phase }, { on := 25, ground := Ground.phase }, { on := 26, ground := Ground.phase }, { on := 27, ground := Ground.phase }, { on := 28, ground := Ground.phase }, { on := 29, ground := Ground.phase }, { on := 30, ground := Ground.phase }, { on := 31, ground := Ground.phase }, { on := 32, ground := Ground.phase }], guard := none }) (by kernel_rfl) rfl (fun K hK => ?_)
  go_simp
  refine hK.out _ _ (fun hEarly => pu7) ?_
  clear hK K
  try simp only [Act.put, List.setIfInBounds_toArray, List.set_cons_zero, List.set_cons_succ]
  refine Gz.done (by kernel_rfl) ?_ _
  have HKf : Hid (Kept (fun _ => True) w u7) := HLr.out.p.kept.trans pu7
  go_wp2_with fail
  go_ret
  exact ⟨rfl, HKf.out⟩

  end Go.Proofs.YtnddpalngjmhnaaDoor