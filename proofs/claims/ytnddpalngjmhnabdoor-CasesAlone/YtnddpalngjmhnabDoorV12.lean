/-
  Ready; the book's State, Fire; the law's right.
-/
import Derived.Test.YtnddpalngjmhnabDoorV11
import Derived.Test.YtnddpalngjmhnabDoorTTy
namespace Go.Proofs.YtnddpalngjmhnabDoor
open Go.RowKit

theorem ready_take {t : Ty} {s : Sa} {i : Nat} (f : Sized t s) (h : i < t.stages.length) : (((t.stages.zip s.done).take (i + 1)).filter (fun p => !p.2 && hld t s p.1.guard)).map (fun p => p.1.name) =
    (((t.stages.zip s.done).take i).filter (fun p => !p.2 && hld t s p.1.guard)).map (fun p => p.1.name) ++ (if rdy t s i = true then [(t.stages[i]).name] else []) := by
  have hd : i < s.done.length := by rw [f.done]; exact h
  obtain ⟨h1, h2⟩ := zip_at h hd
  rw [List.take_succ_eq_append_getElem h1, List.filter_append, List.map_append, h2]
  have e : rdy t s i = (!(s.done[i]) && hld t s (t.stages[i]).guard) := by simp [rdy, List.getD_eq_getElem?_getD, h, hd]
  rw [e]
  cases hq : (!(s.done[i]) && hld t s (t.stages[i]).guard) <;> simp [hq]

set_option maxRecDepth 100000 in
set_option maxHeartbeats 4000000 in
theorem same_ints {w : World} {u v : Value} {xs : List Int} (h : Cv w u (iv xs)) (h' : Cv w v (iv xs)) (hl : xs.length ≤ 1000000) :
    Calls Tryd.prog 23 #[u, v] w fun e w' => e = .returned (.bool true) ∧ Kept (fun _ => True) w w' := by
  have HU : Hid (Cv w u (iv xs)) := h
  have HV : Hid (Cv w v (iv xs)) := h'
  obtain ⟨uo, uc, rfl, -, -⟩ := h.ints
  obtain ⟨vo, vc, rfl, -, -⟩ := h'.ints
  clear h h'
  go_enter Tryd.func23, Tryd.ntmps23
  go_wp2_with fail
  go_loopw [5] (fun ti wr => ∃ i : Nat, i ≤ xs.length ∧ ti = .int .i64 i ∧ Kept (fun _ => True) w wr) (fun ti _ => xs.length - (intOf ti).toNat)
  case atStart => exact ⟨0, Nat.zero_le _, rfl, Kept.refl _ _⟩
  case round =>
  obtain ⟨i, hi, rfl, hk⟩ := hrel
  have HK : Hid (Kept (fun _ => True) w wr) := hk
  by_cases hlt : i < xs.length
  · obtain ⟨b, off, rfl, hb, c0⟩ := (HU.out.all hk).intAt i hlt
    obtain ⟨b2, off2, rfl, hb2, c1⟩ := (HV.out.all hk).intAt i hlt
    have i1 : (i : Int) < (xs.length : Int) := by omega
    have i0 : (0 : Int) ≤ (i : Int) := by omega
    clear hk hb hb2
    generalize xs[i] = x at *
    skip
    go_wp2_with fail
    go_quiet (fail)
    go_wp2_with fail
    go_roundw
    case rel => exact ⟨i + 1, by omega, by go_num, HK.out.drewN _⟩
    case measure => simp [intOf]; omega
  · have i1 : ¬ (i : Int) < (xs.length : Int) := by omega
    clear hk
    go_wp2_with fail
    go_ret
    exact ⟨rfl, HK.out⟩

set_option maxRecDepth 100000 in
set_option maxHeartbeats 4000000 in
theorem same_bools {w : World} {u v : Value} {xs : List Bool} (h : Cv w u (bv xs)) (h' : Cv w v (bv xs)) (hl : xs.length ≤ 1000000) :
    Calls Tryd.prog 24 #[u, v] w fun e w' => e = .returned (.bool true) ∧ Kept (fun _ => True) w w' := by
  have HU : Hid (Cv w u (bv xs)) := h
  have HV : Hid (Cv w v (bv xs)) := h'
  obtain ⟨uo, uc, rfl, -, -⟩ := h.bools
  obtain ⟨vo, vc, rfl, -, -⟩ := h'.bools
  clear h h'
  go_enter Tryd.func24, Tryd.ntmps24
  go_wp2_with fail
  go_loopw [5] (fun ti wr => ∃ i : Nat, i ≤ xs.length ∧ ti = .int .i64 i ∧ Kept (fun _ => True) w wr) (fun ti _ => xs.length - (intOf ti).toNat)
  case atStart => exact ⟨0, Nat.zero_le _, rfl, Kept.refl _ _⟩
  case round =>
  obtain ⟨i, hi, rfl, hk⟩ := hrel
  have HK : Hid (Kept (fun _ => True) w wr) := hk
  by_cases hlt : i < xs.length
  · obtain ⟨b, off, rfl, hb, c0⟩ := (HU.out.all hk).boolAt i hlt
    obtain ⟨b2, off2, rfl, hb2, c1⟩ := (HV.out.all hk).boolAt i hlt
    have i1 : (i : Int) < (xs.length : Int) := by omega
    have i0 : (0 : Int) ≤ (i : Int) := by omega
    clear hk hb hb2
    generalize xs[i] = x at *
    skip
    go_wp2_with fail
    go_quiet (fail)
    go_wp2_with fail
    go_roundw
    case rel => exact ⟨i + 1, by omega, by go_num, HK.out.drewN _⟩
    case measure => simp [intOf]; omega
  · have i1 : ¬ (i : Int) < (xs.length : Int) := by omega
    clear hk
    go_wp2_with fail
    go_ret
    exact ⟨rfl, HK.out⟩

set_option maxRecDepth 100000 in
set_option maxHeartbeats 4000000 in
theorem same_book {w : World} {u v : Value} {xs : List Int} (h : Cv w u (iv xs)) (h' : Cv w v (iv xs)) (hl : xs.length ≤ 1000000) :
    Calls Tryd.prog 13 #[u, v] w fun e w' => e = .returned (.bool true) ∧ Kept (fun _ => True) w w' := by
  have HU : Hid (Cv w u (iv xs)) := h
  have HV : Hid (Cv w v (iv xs)) := h'
  obtain ⟨uo, uc, rfl, -, -⟩ := h.ints
  obtain ⟨vo, vc, rfl, -, -⟩ := h'.ints
  clear h h'
  go_enter Tryd.func13, Tryd.ntmps13
  go_wp2_with fail
  go_loopw [5] (fun ti wr => ∃ i : Nat, i ≤ xs.length ∧ ti = .int .i64 i ∧ Kept (fun _ => True) w wr) (fun ti _ => xs.length - (intOf ti).toNat)
  case atStart => exact ⟨0, Nat.zero_le _, rfl, Kept.refl _ _⟩
  case round =>
  obtain ⟨i, hi, rfl, hk⟩ := hrel
  have HK : Hid (Kept (fun _ => True) w wr) := hk
  by_cases hlt : i < xs.length
  · obtain ⟨b, off, rfl, hb, c0⟩ := (HU.out.all hk).intAt i hlt
    obtain ⟨b2, off2, rfl, hb2, c1⟩ := (HV.out.all hk).intAt i hlt
    have i1 : (i : Int) < (xs.length : Int) := by omega
    have i0 : (0 : Int) ≤ (i : Int) := by omega
    clear hk hb hb2
    generalize xs[i] = x at *
    skip
    go_wp2_with fail
    go_quiet (fail)
    go_wp2_with fail
    go_roundw
    case rel => exact ⟨i + 1, by omega, by go_num, HK.out.drewN _⟩
    case measure => simp [intOf]; omega
  · have i1 : ¬ (i : Int) < (xs.length : Int) := by omega
    clear hk
    go_wp2_with fail
    go_ret
    exact ⟨rfl, HK.out⟩

set_option maxRecDepth 100000 in
set_option maxHeartbeats 4000000 in
theorem state_same {w : World} {u v : Value} {s : Sa} (h : StV w u s) (h' : StV w v s) (f : Few s) :
    Calls Tryd.prog 10 #[u, v] w fun e w' => e = .returned (.bool true) ∧ Kept (fun _ => True) w w' := by
  obtain ⟨ua, ud, ug, rfl, a1, a2, a3⟩ := h
  obtain ⟨va, vd, vg, rfl, b1, b2, b3⟩ := h'
  obtain ⟨l1, l2, l3⟩ := f
  have A1 : Hid (Cv w ua (iv s.vals)) := a1
  have A2 : Hid (Cv w ud (bv s.done)) := a2
  have A3 : Hid (Cv w ug (bv s.got)) := a3
  have B1 : Hid (Cv w va (iv s.vals)) := b1
  have B2 : Hid (Cv w vd (bv s.done)) := b2
  have B3 : Hid (Cv w vg (bv s.got)) := b3
  obtain ⟨p1, p2, rfl, -, -⟩ := a1.ints
  obtain ⟨p3, p4, rfl, -, -⟩ := a2.bools
  obtain ⟨p5, p6, rfl, -, -⟩ := a3.bools
  obtain ⟨q1, q2, rfl, -, -⟩ := b1.ints
  obtain ⟨q3, q4, rfl, -, -⟩ := b2.bools
  obtain ⟨q5, q6, rfl, -, -⟩ := b3.bools
  obtain ⟨x1, x2⟩ := alloc_two w (.cells #[.string ⟨s.type.toArray⟩, .slice p1 s.vals.length p2, .slice p3 s.done.length p4, .slice p5 s.got.length p6] 32) (.cells #[.string ⟨s.type.toArray⟩, .slice q1 s.vals.length q2, .slice q3 s.done.length q4, .slice q5 s.got.length q6] 32)
  have K0 : Hid (Kept (fun _ => True) w ((w.alloc (.cells #[.string ⟨s.type.toArray⟩, .slice p1 s.vals.length p2, .slice p3 s.done.length p4, .slice p5 s.got.length p6] 32)).alloc (.cells #[.string ⟨s.type.toArray⟩, .slice q1 s.vals.length q2, .slice q3 s.done.length q4, .slice q5 s.got.length q6] 32))) := ((Kept.refl _ _).alloc _).alloc _
  obtain ⟨⟨y0, y1, y2, y3⟩, _⟩ := four_cell x1
  obtain ⟨⟨z0, z1, z2, z3⟩, _⟩ := four_cell x2
  have X1 : Hid _ := x1
  have X2 : Hid _ := x2
  have c1 := same_ints (A1.out.all K0.out) (B1.out.all K0.out) l1
  clear a1 a2 a3 b1 b2 b3 x1 x2
  go_enter Tryd.func10, Tryd.ntmps10
  go_wp2_with fail
  refine Calls.mono c1 ?_
  rintro e w2 ⟨rfl, k2⟩
  have hB1 := (k2.block _ (lt_of_block X1.out) trivial).trans X1.out
  have hB2 := (k2.block _ (lt_of_block X2.out) trivial).trans X2.out
  have K2 : Hid (Kept (fun _ => True) w w2) := K0.out.trans k2
  have HB1 : Hid _ := hB1
  have HB2 : Hid _ := hB2
  have c2 := same_bools (A2.out.all K2.out) (B2.out.all K2.out) l2
  clear c1 y0 y1 y2 y3 z0 z1 z2 z3 k2 X1 X2 K0
  obtain ⟨⟨y0, y1, y2, y3⟩, _⟩ := four_cell hB1
  obtain ⟨⟨z0, z1, z2, z3⟩, _⟩ := four_cell hB2
  clear hB1 hB2
  go_wp2_with fail
  refine Calls.mono c2 ?_
  rintro e w3 ⟨rfl, k3⟩
  have hB1 := (k3.block _ (lt_of_block HB1.out) trivial).trans HB1.out
  have hB2 := (k3.block _ (lt_of_block HB2.out) trivial).trans HB2.out
  have K3 : Hid (Kept (fun _ => True) w w3) := K2.out.trans k3
  have c3 := same_bools (A3.out.all K3.out) (B3.out.all K3.out) l3
  clear c2 y0 y1 y2 y3 z0 z1 z2 z3 k3 HB1 HB2
  obtain ⟨⟨y0, y1, y2, y3⟩, _⟩ := four_cell hB1
  obtain ⟨⟨z0, z1, z2, z3⟩, _⟩ := four_cell hB2
  clear hB1 hB2
  go_wp2_with fail
  refine Calls.mono c3 ?_
  rintro e w4 ⟨rfl, k4⟩
  go_wp2_with fail
  go_ret
  exact ⟨rfl, K3.out.trans k4⟩

theorem Tryd.sizeOp : (Tryd.prog.info? 38).map (·.size) = some 4 := by kernel_rfl
theorem results_op {fn : Func} {p : Nat} (h : fn.results = #[.cell p 38]) (tmps : Array Value) (w : World) {g : Nat} {cs : Array Value} {t : TypeId} {fr : Nat × Nat} (hp : tmps.getD p undef = .pointer (some ⟨g, 0, none⟩)) (hg : w.heap[g]? = some (.cells cs t fr)) (hc : cs.size = 4) :
    (results fn tmps).run Tryd.prog w = .ok (.agg cs) w :=
  results_cell_row h tmps w g t cs fr _ hp hg Tryd.underlying38 rfl (by rw [hc]; exact Tryd.sizeOp)
theorem results_type {fn : Func} {p : Nat} (h : fn.results = #[.cell p 26]) (tmps : Array Value) (w : World) {g : Nat} {cs : Array Value} {t : TypeId} {fr : Nat × Nat} (hp : tmps.getD p undef = .pointer (some ⟨g, 0, none⟩)) (hg : w.heap[g]? = some (.cells cs t fr)) (hc : cs.size = 4) :
    (results fn tmps).run Tryd.prog w = .ok (.agg cs) w :=
  results_cell_row h tmps w g t cs fr _ hp hg Tryd.underlying26 rfl (by rw [hc]; exact Tryd.sizeType)

set_option maxRecDepth 100000 in
set_option maxHeartbeats 1000000 in
theorem fireOp_any {w : World} (x y : List UInt8) :
    Calls Tryd.prog 12 #[.string ⟨x.toArray⟩, .string ⟨y.toArray⟩] w fun e w' => e = .returned (opV ⟨4, x, y, 0⟩) ∧ Kept (fun _ => True) w w' := by
  have K0 : Hid (Kept (fun _ => True) w (w.alloc (.cells #[.int .i64 4, .string ⟨x.toArray⟩, .string ⟨y.toArray⟩, .int .i64 0] 38))) := (Kept.refl _ _).alloc _
  go_enter Tryd.func12, Tryd.ntmps12
  go_wp2_with fail
  refine bodyPost_ret (results_op rfl _ _ rfl (heap_alloc_new _ _) rfl) rfl ⟨rfl, K0.out⟩

theorem loan_right : right loan = 0 := by kernel_rfl
theorem loan_good : Good loan := good_of loan_right
/-- A type that is right; else the loan. -/
def rightT (t : Ty) : Ty := if right t = 0 then t else loan
theorem right_good (t : Ty) : Good (rightT t) := by
  unfold rightT
  split
  · rename_i h; exact good_of h
  · exact loan_good

end Go.Proofs.YtnddpalngjmhnabDoor

namespace Go.Proofs.YtnddpalngjmhnabDoor
open Go.RowKit

/-- The cells of a variable of four: a text, three slices. -/
theorem box_cells {w : World} {D : Nat} {s : ByteArray} {a1 a2 a3 : Option Addr} {n1 n2 n3 c1 c2 c3 : Nat} {T : TypeId} {fr : Nat × Nat} (h : w.heap[D]? = some (.cells #[.string s, .slice a1 n1 c1, .slice a2 n2 c2, .slice a3 n3 c3] T fr)) {o : Nat} {u : Value} (hu : w.cell? ⟨D, o, none⟩ = some u) : (o = 0 ∧ u = .string s) ∨ (o ≠ 0 ∧ ∃ a n c, u = .slice a n c) := by
  rw [cell_of_row w D _ _ _ _ h] at hu
  rcases o with _ | _ | _ | _ | o
  · simp at hu
    exact .inl ⟨rfl, hu.symm⟩
  · simp at hu
    exact .inr ⟨by omega, _, _, _, hu.symm⟩
  · simp at hu
    exact .inr ⟨by omega, _, _, _, hu.symm⟩
  · simp at hu
    exact .inr ⟨by omega, _, _, _, hu.symm⟩
  · simp at hu
section
variable {w w' : World} {D : Nat} {s : ByteArray} {a1 a2 a3 : Option Addr} {n1 n2 n3 c1 c2 c3 : Nat} {T : TypeId} {fr : Nat × Nat}
theorem TyV.store {v : Value} {t : Ty} (h : TyV w v t) (hD : w.heap[D]? = some (.cells #[.string s, .slice a1 n1 c1, .slice a2 n2 c2, .slice a3 n3 c3] T fr)) (k : Kept (· ≠ D) w w') : TyV w' v t := by
  obtain ⟨va, vs, vm, e, ⟨x1, x2, x3, x4, x5, x6⟩, ⟨y1, y2, y3, y4, y5, y6⟩, ⟨z1, z2, z3, z4, z5, z6⟩⟩ := h
  refine ⟨va, vs, vm, e, ⟨x1, x2, x3, x4, x5, fun h0 => ?_⟩, ⟨y1, y2, y3, y4, y5, fun h0 => ?_⟩, ⟨z1, z2, z3, z4, z5, fun h0 => ?_⟩⟩
  · obtain ⟨b, off, e, hb, hc⟩ := x6 h0
    have hne : b ≠ D := fun q => by
      subst q
      rcases box_cells hD (hc 0 h0).2.1 with ⟨q, _⟩ | ⟨_, _, _, _, q⟩
      · omega
      · cases q
    refine ⟨b, off, e, Nat.lt_of_lt_of_le hb k.size, fun i hi => ?_⟩
    simp only [kept_cell k hb hne]
    exact hc i hi
  · obtain ⟨b, off, e, hb, hc⟩ := y6 h0
    have hne : b ≠ D := fun q => by
      subst q
      rcases box_cells hD (hc 0 h0).2 with ⟨q, _⟩ | ⟨_, _, _, _, q⟩
      · omega
      · cases q
    refine ⟨b, off, e, Nat.lt_of_lt_of_le hb k.size, fun i hi => ?_⟩
    simp only [kept_cell k hb hne]
    exact hc i hi
  · obtain ⟨b, off, e, hb, hc⟩ := z6 h0
    have hne : b ≠ D := fun q => by
      subst q
      rcases box_cells hD (hc 0 h0).2 with ⟨q, _⟩ | ⟨_, _, _, _, q⟩
      · omega
      · cases q
    refine ⟨b, off, e, Nat.lt_of_lt_of_le hb k.size, fun i hi => ?_⟩
    simp only [kept_cell k hb hne]
    exact hc i hi
theorem Cv.store {v : Value} {xs : List Value} (h : Cv w v xs) (hx : ∀ x ∈ xs, (∃ n, x = .int .i64 n) ∨ ∃ b, x = .bool b) (hD : w.heap[D]? = some (.cells #[.string s, .slice a1 n1 c1, .slice a2 n2 c2, .slice a3 n3 c3] T fr)) (k : Kept (· ≠ D) w w') : Cv w' v xs := by
  obtain ⟨ao, cap, e, hl, hn, h⟩ := h
  refine ⟨ao, cap, e, hl, hn, fun h0 => ?_⟩
  obtain ⟨b, off, e, hb, hc⟩ := h h0
  have hne : b ≠ D := fun q => by
    subst q
    have hm := hx _ (List.getElem_mem h0)
    rcases box_cells hD (hc 0 h0) with ⟨_, q⟩ | ⟨_, _, _, _, q⟩
    · rw [q] at hm
      rcases hm with ⟨_, q⟩ | ⟨_, q⟩ <;> cases q
    · rw [q] at hm
      rcases hm with ⟨_, q⟩ | ⟨_, q⟩ <;> cases q
  exact ⟨b, off, e, Nat.lt_of_lt_of_le hb k.size, fun i hi => (kept_cell k hb hne).trans (hc i hi)⟩
theorem StV.store {v : Value} {x : Sa} (h : StV w v x) (hD : w.heap[D]? = some (.cells #[.string s, .slice a1 n1 c1, .slice a2 n2 c2, .slice a3 n3 c3] T fr)) (k : Kept (· ≠ D) w w') : StV w' v x := by
  obtain ⟨va, vd, vg, e, h1, h2, h3⟩ := h
  have p1 : ∀ y ∈ iv x.vals, (∃ n, y = .int .i64 n) ∨ ∃ b, y = .bool b := fun y hy => by obtain ⟨n, _, rfl⟩ := List.mem_map.1 hy; exact .inl ⟨n, rfl⟩
  have p2 : ∀ l, ∀ y ∈ bv l, (∃ n, y = .int .i64 n) ∨ ∃ b, y = .bool b := fun l y hy => by obtain ⟨n, _, rfl⟩ := List.mem_map.1 hy; exact .inr ⟨n, rfl⟩
  exact ⟨va, vd, vg, e, h1.store p1 hD k, h2.store (p2 _) hD k, h3.store (p2 _) hD k⟩
end
theorem StV.parts {w : World} {v : Value} {s : Sa} (h : StV w v s) : ∃ a1 c1 a2 c2 a3 c3, v = .agg #[.string ⟨s.type.toArray⟩, .slice a1 s.vals.length c1, .slice a2 s.done.length c2, .slice a3 s.got.length c3] := by
  obtain ⟨va, vd, vg, rfl, h1, h2, h3⟩ := h
  obtain ⟨p1, p2, rfl, -, -⟩ := h1.ints
  obtain ⟨p3, p4, rfl, -, -⟩ := h2.bools
  obtain ⟨p5, p6, rfl, -, -⟩ := h3.bools
  exact ⟨_, _, _, _, _, _, rfl⟩

/-- What an Apply leaves in three variables. -/
structure Ap (wr wx : World) (t : Ty) (s : Sa) (o : Oq) (D : Nat) (a1 a2 a3 : Option Addr) (c1 c2 c3 : Nat) : Prop where
  box : wx.heap[D]? = some (.cells #[.string ⟨(applyP t s o).1.type.toArray⟩, .slice a1 (applyP t s o).1.vals.length c1, .slice a2 (applyP t s o).1.done.length c2, .slice a3 (applyP t s o).1.got.length c3] 32 (0, 0))
  so : So wx wr.heap.size (.slice a1 (applyP t s o).1.vals.length c1) (.slice a2 (applyP t s o).1.done.length c2) (.slice a3 (applyP t s o).1.got.length c3) (applyP t s o).1
  low : wr.heap.size ≤ D
  kept : Kept (fun _ => True) wr wx
def ApR (wr wx : World) (t : Ty) (s : Sa) (o : Oq) (t3 t4 t5 : Value) : Prop := ∃ D a1 a2 a3 c1 c2 c3, t3 = .pointer (some ⟨D, 0, none⟩) ∧ t4 = .string ⟨(applyP t s o).2.1.toArray⟩ ∧ t5 = .int .i64 ((applyP t s o).2.2 : Nat) ∧ Ap wr wx t s o D a1 a2 a3 c1 c2 c3

def sLoan : Sa := ⟨[108, 111, 97, 110], [5, 0], [false, false], [false, false, false]⟩
def sCheck : Sa := ⟨[108, 111, 97, 110], [5, 0], [true, false], [false, false, false]⟩
def oCheck : Oq := ⟨4, [120], [99, 104, 101, 99, 107], 0⟩
theorem new_loan : newP loan = sLoan := by kernel_rfl
theorem check_loan : applyP loan sLoan oCheck = (sCheck, [], 0) := by kernel_rfl
theorem check_again : applyP loan sCheck oCheck = (Sa.none, [], 32) := by kernel_rfl
theorem text_loan : textP loan sLoan = [108, 111, 97, 110, 32, 115, 117, 109, 61, 53, 32, 114, 105, 115, 107, 61, 48] := by kernel_rfl
theorem text_check : textP loan sCheck = [108, 111, 97, 110, 32, 115, 117, 109, 61, 53, 32, 114, 105, 115, 107, 61, 48, 32, 43, 99, 104, 101, 99, 107] := by kernel_rfl
theorem fit_loan : Fit loan sLoan := by
  have := Fit.new loan_good
  rwa [new_loan] at this
theorem fit_check : Fit loan sCheck := by
  have := Fit.apply fit_loan oCheck (by rw [check_loan])
  rwa [check_loan] at this

end Go.Proofs.YtnddpalngjmhnabDoor

namespace Go.Proofs.YtnddpalngjmhnabDoor
open Go.RowKit

/-- What an Apply leaves, of its contract: the variable made behind it, or ahead of it. -/
theorem Ap.late {w v5 : World} {t : Ty} {s : Sa} {o : Oq} {b : Nat} {a1 a2 a3 : Option Addr} {c1 c2 c3 : Nat} (k : Kept (fun _ => True) w v5) (h : So v5 b (.slice a1 (applyP t s o).1.vals.length c1) (.slice a2 (applyP t s o).1.done.length c2) (.slice a3 (applyP t s o).1.got.length c3) (applyP t s o).1) (hb : w.heap.size ≤ b) :
    Ap w (v5.alloc (.cells #[.string ⟨(applyP t s o).1.type.toArray⟩, .slice a1 (applyP t s o).1.vals.length c1, .slice a2 (applyP t s o).1.done.length c2, .slice a3 (applyP t s o).1.got.length c3] 32)) t s o v5.heap.size a1 a2 a3 c1 c2 c3 :=
  ⟨heap_alloc_new _ _, (h.all ((Kept.refl _ _).alloc _)).lower hb, k.size, k.alloc _⟩
theorem Ap.early {w v5 : World} {t : Ty} {s : Sa} {o : Oq} {b D : Nat} {a1 a2 a3 : Option Addr} {c1 c2 c3 : Nat} {y0 y1 y2 y3 : Value} (k : Kept (fun _ => True) w v5) (h : So v5 b (.slice a1 (applyP t s o).1.vals.length c1) (.slice a2 (applyP t s o).1.done.length c2) (.slice a3 (applyP t s o).1.got.length c3) (applyP t s o).1) (hD : v5.heap[D]? = some (.cells #[y0, y1, y2, y3] 32 (0, 0))) (hl : w.heap.size ≤ D) (hb : D < b) :
    Ap w ((((v5.setCell ⟨D, 0, none⟩ (.string ⟨(applyP t s o).1.type.toArray⟩)).setCell ⟨D, 1, none⟩ (.slice a1 (applyP t s o).1.vals.length c1)).setCell ⟨D, 2, none⟩ (.slice a2 (applyP t s o).1.done.length c2)).setCell ⟨D, 3, none⟩ (.slice a3 (applyP t s o).1.got.length c3)) t s o D a1 a2 a3 c1 c2 c3 :=
  ⟨put4_at hD _ _ _ _, (h.far (put4_kept (p := (b ≤ ·)) (by omega) _ _ _ _)).lower (by omega), hl, put4_new k hl _ _ _ _⟩
theorem apply_to {w : World} {tv sv : Value} {t : Ty} {s : Sa} (ht : TyV w tv t) (hs : StV w sv s) (g : Good t) (f : Fit t s) (hTab : Tab w) (o : Oq) :
    Calls Tryd.prog 6 #[tv, sv, opV o] w fun e w' => ∃ va vd vg, e = .returned (.tuple #[.agg #[.string ⟨(applyP t s o).1.type.toArray⟩, va, vd, vg], .string ⟨(applyP t s o).2.1.toArray⟩, .int .i64 ((applyP t s o).2.2 : Nat)]) ∧ So w' w.heap.size va vd vg (applyP t s o).1 ∧ Kept (fun _ => True) w w' :=
  (apply_any ht hs g f hTab o).mono fun e w' h => by
    obtain ⟨v, rfl, ⟨va, vd, vg, rfl, hso⟩, k⟩ := h
    exact ⟨va, vd, vg, rfl, hso, k⟩

theorem known_letters : ∃ (t0 : Ty) (s1 s2 : Sa) (o0 : Oq), Good t0 ∧ Fit t0 s1 ∧ Fit t0 s2 ∧ newP t0 = s1 ∧ applyP t0 s1 o0 = (s2, [], 0) ∧ applyP t0 s2 o0 = (Sa.none, [], 32) ∧ textP t0 s1 = [108, 111, 97, 110, 32, 115, 117, 109, 61, 53, 32, 114, 105, 115, 107, 61, 48] ∧ textP t0 s2 = [108, 111, 97, 110, 32, 115, 117, 109, 61, 53, 32, 114, 105, 115, 107, 61, 48, 32, 43, 99, 104, 101, 99, 107] ∧ Few s1 ∧ Few s2 ∧
    (∀ w, Calls Tryd.prog 4 #[] w fun e w' => ∃ g a s m b, e = .returned (.slice (some ⟨g, 0, none⟩) 2 2) ∧ w'.heap[g]? = some (.cells #[.string ⟨t0.name.toArray⟩, a, s, m, .string ⟨count.name.toArray⟩, b, .slice none 0 0, .slice none 0 0] 26 (0, 0)) ∧ TyV w' (.agg #[.string ⟨t0.name.toArray⟩, a, s, m]) t0 ∧ Kept (fun _ => True) w w') ∧
    (∀ W, Calls Tryd.prog 12 #[.string ⟨#[120]⟩, .string ⟨#[99, 104, 101, 99, 107]⟩] W fun e w' => e = .returned (opV o0) ∧ Kept (fun _ => True) W w') :=
  ⟨loan, sLoan, sCheck, oCheck, loan_good, fit_loan, fit_check, new_loan, check_loan, check_again, text_loan, text_check, fit_loan.few loan_good, fit_check.few loan_good,
    fun w => (types_any (w := w)).mono fun e w' h => by
      obtain ⟨g, a, s, m, b, h1, h2, h3, _, h5⟩ := h
      exact ⟨g, a, s, m, b, h1, h2, h3, h5⟩,
    fun W => fireOp_any [120] [99, 104, 101, 99, 107]⟩

set_option maxRecDepth 100000 in
set_option maxHeartbeats 8000000 in
theorem known_any {w : World} (hTab : Tab w) : Calls Tryd.prog 14 #[] w fun e w' => e = .returned (.bool true) ∧ Kept (fun _ => True) w w' := by
  have HTb : Hid (Tab w) := hTab
  clear hTab
  obtain ⟨t0, s1, s2, o0, G0, F1, F2, hnew, happ1, happ2, htx1, htx2, fw1, fw2, HTypes, HFire⟩ := known_letters
  have ct := HTypes w
  have HG0 : Hid (Good t0) := G0
  have HF1 : Hid (Fit t0 s1) := F1
  have HF2 : Hid (Fit t0 s2) := F2
  have HA1 : Hid (applyP t0 s1 o0 = (s2, [], 0)) := happ1
  have HA2 : Hid (applyP t0 s2 o0 = (Sa.none, [], 32)) := happ2
  have HX1 : Hid _ := htx1
  have HX2 : Hid _ := htx2
  have HW1 : Hid (Few s1) := fw1
  have HW2 : Hid (Few s2) := fw2
  have HFi : Hid _ := HFire
  have HNw : Hid (newP t0 = s1) := hnew
  clear HTypes HFire G0 F1 F2 happ1 happ2 htx1 htx2 fw1 fw2 hnew
  go_enter Tryd.func14, Tryd.ntmps14
  go_wp2_with fail
  refine Calls.mono ct ?_
  rintro e w1 ⟨g, a, s, m, b, rfl, hg, hl, k1⟩
  obtain ⟨aa, an, ac, sa, sn, sc, ma, mn, mc, he⟩ := hl.parts
  simp only [Value.agg.injEq, Array.mk.injEq, List.cons.injEq, and_true, true_and] at he
  obtain ⟨rfl, rfl, rfl⟩ := he
  have l0 : w1.cell? ⟨g, 0, none⟩ = some (.string ⟨t0.name.toArray⟩) := by simp [World.cell?, hg]
  have l1 : w1.cell? ⟨g, 1, none⟩ = some (.slice aa an ac) := by simp [World.cell?, hg]
  have l2 : w1.cell? ⟨g, 2, none⟩ = some (.slice sa sn sc) := by simp [World.cell?, hg]
  have l3 : w1.cell? ⟨g, 3, none⟩ = some (.slice ma mn mc) := by simp [World.cell?, hg]
  obtain ⟨L, hL⟩ : ∃ L, L = t0.name := ⟨_, rfl⟩
  rw [← hL] at l0 hl
  have HL : Hid (TyV w1 (.agg #[.string ⟨L.toArray⟩, .slice aa an ac, .slice sa sn sc, .slice ma mn mc]) t0) := hl
  have ka : Kept (fun _ => True) w1 (w1.alloc (.cells #[.string ⟨L.toArray⟩, .slice aa an ac, .slice sa sn sc, .slice ma mn mc] 26)) := (Kept.refl _ _).alloc _
  have hT := heap_alloc_new w1 (.cells #[.string ⟨L.toArray⟩, .slice aa an ac, .slice sa sn sc, .slice ma mn mc] 26)
  have HT : Hid _ := hT
  have K1 : Hid (Kept (fun _ => True) w _) := k1.trans ka
  have HLa : Hid (TyV _ (.agg #[.string ⟨L.toArray⟩, .slice aa an ac, .slice sa sn sc, .slice ma mn mc]) t0) := hl.all ka
  have cn := new_any HLa.out HG0.out
  rw [HNw.out] at cn
  obtain ⟨⟨y0, y1, y2, y3⟩, _⟩ := four_cell hT
  clear ct hg hl k1 ka hT hL HL
  go_wp2_with fail
  generalize w1.alloc (.cells #[.string ⟨L.toArray⟩, .slice aa an ac, .slice sa sn sc, .slice ma mn mc] 26) = w2 at *
  generalize w1.heap.size = T at *
  refine Calls.mono cn ?_
  rintro e w3 ⟨v3, rfl, ho3, k3⟩
  have hst3 := ho3.view HW1.out
  obtain ⟨a1, c1, a2, c2, a3, c3, rfl⟩ := hst3.parts
  have ka : Kept (fun _ => True) w3 (w3.alloc (.cells #[.string ⟨s1.type.toArray⟩, .slice a1 s1.vals.length c1, .slice a2 s1.done.length c2, .slice a3 s1.got.length c3] 32)) := (Kept.refl _ _).alloc _
  have hS := heap_alloc_new w3 (.cells #[.string ⟨s1.type.toArray⟩, .slice a1 s1.vals.length c1, .slice a2 s1.done.length c2, .slice a3 s1.got.length c3] 32)
  have HS : Hid _ := hS
  have HSt : Hid (StV _ (.agg #[.string ⟨s1.type.toArray⟩, .slice a1 s1.vals.length c1, .slice a2 s1.done.length c2, .slice a3 s1.got.length c3]) s1) := hst3.all ka
  have K3 : Hid (Kept (fun _ => True) w2 _) := k3.trans ka
  clear cn y0 y1 y2 y3 l0 l1 l2 l3 ho3 hst3 k3 ka hS
  obtain ⟨n1, hn1⟩ : ∃ n, n = s1.vals.length := ⟨_, rfl⟩
  obtain ⟨n2, hn2⟩ : ∃ n, n = s1.done.length := ⟨_, rfl⟩
  obtain ⟨n3, hn3⟩ : ∃ n, n = s1.got.length := ⟨_, rfl⟩
  obtain ⟨Z, hZ⟩ : ∃ Z, Z = s1.type := ⟨_, rfl⟩
  rw [← hn1, ← hn2, ← hn3, ← hZ] at HS HSt K3 ⊢
  clear hn1 hn2 hn3 hZ
  go_upto_region 3 with fail
  generalize w3.alloc (.cells #[.string ⟨Z.toArray⟩, .slice a1 n1 c1, .slice a2 n2 c2, .slice a3 n3 c3] 32) = w4 at *
  generalize w3.heap.size = S at *
  have hT4 := (K3.out.block _ (lt_of_block HT.out) trivial).trans HT.out
  have HT4 : Hid _ := hT4
  have hS4 := HS.out
  obtain ⟨⟨y0, y1, y2, y3⟩, _⟩ := four_cell hT4
  obtain ⟨⟨z0, z1, z2, z3⟩, _⟩ := four_cell hS4
  have Y0 := fun W (q : Kept (fun _ => True) w4 W) => (kept_cell q (lt_of_block hT4) trivial).trans y0
  have Y1 := fun W (q : Kept (fun _ => True) w4 W) => (kept_cell q (lt_of_block hT4) trivial).trans y1
  have Y2 := fun W (q : Kept (fun _ => True) w4 W) => (kept_cell q (lt_of_block hT4) trivial).trans y2
  have Y3 := fun W (q : Kept (fun _ => True) w4 W) => (kept_cell q (lt_of_block hT4) trivial).trans y3
  have Z0 := fun W (q : Kept (fun _ => True) w4 W) => (kept_cell q (lt_of_block hS4) trivial).trans z0
  have Z1 := fun W (q : Kept (fun _ => True) w4 W) => (kept_cell q (lt_of_block hS4) trivial).trans z1
  have Z2 := fun W (q : Kept (fun _ => True) w4 W) => (kept_cell q (lt_of_block hS4) trivial).trans z2
  have Z3 := fun W (q : Kept (fun _ => True) w4 W) => (kept_cell q (lt_of_block hS4) trivial).trans z3
  have kd : Kept (fun _ => True) w4 w4.drew := (Kept.refl _ _).drew
  have HTy4 : Hid (TyV w4 (.agg #[.string ⟨L.toArray⟩, .slice aa an ac, .slice sa sn sc, .slice ma mn mc]) t0) := HLa.out.all K3.out
  have KW4 : Hid (Kept (fun _ => True) w w4) := K1.out.trans K3.out
  have HAp : Hid (∀ W, Kept (fun _ => True) w4 W → Calls Tryd.prog 6 #[.agg #[.string ⟨L.toArray⟩, .slice aa an ac, .slice sa sn sc, .slice ma mn mc], .agg #[.string ⟨Z.toArray⟩, .slice a1 n1 c1, .slice a2 n2 c2, .slice a3 n3 c3], opV o0] W fun e w' => ∃ va vd vg, e = .returned (.tuple #[.agg #[.string ⟨(applyP t0 s1 o0).1.type.toArray⟩, va, vd, vg], .string ⟨(applyP t0 s1 o0).2.1.toArray⟩, .int .i64 ((applyP t0 s1 o0).2.2 : Nat)]) ∧ So w' W.heap.size va vd vg (applyP t0 s1 o0).1 ∧ Kept (fun _ => True) W w') := fun W q => apply_to (HTy4.out.all q) (StV.all HSt.out q) HG0.out HF1.out (HTb.out.all (KW4.out.trans q)) o0
  clear y0 y1 y2 y3 z0 z1 z2 z3 hT4 hS4
  go_cut [3, 4, 5] from 14 to 21 (fun tA tB tC wx => ApR w4 wx t0 s1 o0 tA tB tC)
  case first =>
    go_region_held3 (fun W => Kept (fun _ => True) w4 W) (first | assumption | (repeat (first | exact Kept.refl _ _ | assumption | refine Kept.drew ?_ | refine Kept.alloc ?_ _ | refine Kept.setNew ?_ (by first | exact Nat.le_refl _ | exact p4.size | omega) _))) (first
      | (go_at_call 12; refine Calls.mono (HFi.out _) ?_; rintro e v4 ⟨rfl, m4⟩; have p4 : Kept (fun _ => True) w4 v4 := Kept.trans (by first | assumption | (repeat (first | exact Kept.refl _ _ | assumption | refine Kept.drew ?_ | refine Kept.alloc ?_ _ | refine Kept.setNew ?_ (by first | exact Nat.le_refl _ | exact p4.size | omega) _))) m4; try (have hz4 := (m4.block w4.heap.size (by simp) trivial).trans (heap_alloc_new w4.drew _)); clear m4)
      | (go_at_call 6; refine Calls.mono (HAp.out _ (by first | assumption | (repeat (first | exact Kept.refl _ _ | assumption | refine Kept.drew ?_ | refine Kept.alloc ?_ _ | refine Kept.setNew ?_ (by first | exact Nat.le_refl _ | exact p4.size | omega) _)))) ?_; rintro e v5 ⟨xa, xd, xg, rfl, hso, m5⟩; obtain ⟨b1, d1, b2, d2, b3, d3, rfl, rfl, rfl⟩ := hso.shapes; have HS5 : Hid _ := hso; have p5 : Kept (fun _ => True) w4 v5 := Kept.trans (by first | assumption | (repeat (first | exact Kept.refl _ _ | assumption | refine Kept.drew ?_ | refine Kept.alloc ?_ _ | refine Kept.setNew ?_ (by first | exact Nat.le_refl _ | exact p4.size | omega) _))) m5; first | (have hz5 := (m5.block v4.heap.size (by simp) trivial).trans (heap_alloc_new v4 _); have HZ5 : Hid (v4.heap.size < v5.heap.size) := lt_of_block hz5; obtain ⟨⟨r0, r1, r2, r3⟩, e0, e1, e2, e3⟩ := four_cell hz5) | (have hz5 := (m5.block w4.heap.size (lt_of_block hz4) trivial).trans hz4; obtain ⟨⟨r0, r1, r2, r3⟩, e0, e1, e2, e3⟩ := four_cell hz5) | skip; clear m5 hso))
    all_goals
      go_wp2_with fail
      go_meet
      first
        | exact ⟨_, _, _, _, _, _, _, rfl, rfl, rfl, Ap.late p5 HS5.out (by first | exact Nat.le_refl _ | exact p4.size | simp)⟩
        | exact ⟨_, _, _, _, _, _, _, rfl, rfl, rfl, Ap.early p5 HS5.out hz5 (by first | exact Nat.le_refl _ | exact p4.size) (by first | exact lt_of_block hz4 | simp)⟩
  case rest =>
  obtain ⟨D, q1, q2, q3, d1, d2, d3, rfl, rfl, rfl, hap⟩ := hcut
  have hbx := hap.box
  have hso := hap.so
  simp only [HA1.out] at hbx hso ⊢
  have HSo : Hid (So wc w4.heap.size (.slice q1 s2.vals.length d1) (.slice q2 s2.done.length d2) (.slice q3 s2.got.length d3) s2) := hso
  have K4 : Hid (Kept (fun _ => True) w4 wc) := hap.kept
  have HBx : Hid (wc.heap[D]? = some (.cells #[.string ⟨s2.type.toArray⟩, .slice q1 s2.vals.length d1, .slice q2 s2.done.length d2, .slice q3 s2.got.length d3] 32 (0, 0))) := hbx
  clear hap hso hbx Y0 Y1 Y2 Y3 Z0 Z1 Z2 Z3 kd HAp
  obtain ⟨m1, hm1⟩ : ∃ n, n = s2.vals.length := ⟨_, rfl⟩
  obtain ⟨m2, hm2⟩ : ∃ n, n = s2.done.length := ⟨_, rfl⟩
  obtain ⟨m3, hm3⟩ : ∃ n, n = s2.got.length := ⟨_, rfl⟩
  obtain ⟨ZT, hZT⟩ : ∃ Z, Z = s2.type := ⟨_, rfl⟩
  have HStc : Hid (StV wc (.agg #[.string ⟨s2.type.toArray⟩, .slice q1 s2.vals.length d1, .slice q2 s2.done.length d2, .slice q3 s2.got.length d3]) s2) := HSo.out.stv HW2.out
  rw [← hm1, ← hm2, ← hm3, ← hZT] at HStc HBx
  clear hm1 hm2 hm3 hZT HSo
  have HT5 : Hid _ := (K4.out.block _ (lt_of_block HT4.out) trivial).trans HT4.out
  have HS5 : Hid _ := (K4.out.block _ (lt_of_block HS.out) trivial).trans HS.out
  have HSt5 : Hid (StV wc (.agg #[.string ⟨Z.toArray⟩, .slice a1 n1 c1, .slice a2 n2 c2, .slice a3 n3 c3]) s1) := StV.all HSt.out K4.out
  have HTy5 : Hid (TyV wc (.agg #[.string ⟨L.toArray⟩, .slice aa an ac, .slice sa sn sc, .slice ma mn mc]) t0) := HTy4.out.all K4.out
  have KW5 : Hid (Kept (fun _ => True) w wc) := KW4.out.trans K4.out
  go_upto_region 4 with fail
  obtain ⟨w5, hw5⟩ : ∃ w5, w5 = wc := ⟨_, rfl⟩
  rw [← hw5] at HStc HBx HT5 HS5 HSt5 HTy5 KW5 ⊢
  clear hw5
  obtain ⟨⟨y0, y1, y2, y3⟩, _⟩ := four_cell HT5.out
  obtain ⟨⟨z0, z1, z2, z3⟩, _⟩ := four_cell HBx.out
  have Y0 := fun W (q : Kept (fun _ => True) w5 W) => (kept_cell q (lt_of_block HT5.out) trivial).trans y0
  have Y1 := fun W (q : Kept (fun _ => True) w5 W) => (kept_cell q (lt_of_block HT5.out) trivial).trans y1
  have Y2 := fun W (q : Kept (fun _ => True) w5 W) => (kept_cell q (lt_of_block HT5.out) trivial).trans y2
  have Y3 := fun W (q : Kept (fun _ => True) w5 W) => (kept_cell q (lt_of_block HT5.out) trivial).trans y3
  have Z0 := fun W (q : Kept (fun _ => True) w5 W) => (kept_cell q (lt_of_block HBx.out) trivial).trans z0
  have Z1 := fun W (q : Kept (fun _ => True) w5 W) => (kept_cell q (lt_of_block HBx.out) trivial).trans z1
  have Z2 := fun W (q : Kept (fun _ => True) w5 W) => (kept_cell q (lt_of_block HBx.out) trivial).trans z2
  have Z3 := fun W (q : Kept (fun _ => True) w5 W) => (kept_cell q (lt_of_block HBx.out) trivial).trans z3
  have kd : Kept (fun _ => True) w5 w5.drew := (Kept.refl _ _).drew
  have HAp : Hid (∀ W, Kept (fun _ => True) w5 W → Calls Tryd.prog 6 #[.agg #[.string ⟨L.toArray⟩, .slice aa an ac, .slice sa sn sc, .slice ma mn mc], .agg #[.string ⟨ZT.toArray⟩, .slice q1 m1 d1, .slice q2 m2 d2, .slice q3 m3 d3], opV o0] W fun e w' => ∃ va vd vg, e = .returned (.tuple #[.agg #[.string ⟨(applyP t0 s2 o0).1.type.toArray⟩, va, vd, vg], .string ⟨(applyP t0 s2 o0).2.1.toArray⟩, .int .i64 ((applyP t0 s2 o0).2.2 : Nat)]) ∧ So w' W.heap.size va vd vg (applyP t0 s2 o0).1 ∧ Kept (fun _ => True) W w') := fun W q => apply_to (HTy5.out.all q) (StV.all HStc.out q) HG0.out HF2.out (HTb.out.all (KW5.out.trans q)) o0
  clear y0 y1 y2 y3 z0 z1 z2 z3
  go_cut [6, 7, 8] from 22 to 29 (fun tA tB tC wx => ApR w5 wx t0 s2 o0 tA tB tC)
  case first =>
    go_region_held3 (fun W => Kept (fun _ => True) w5 W) (first | assumption | (repeat (first | exact Kept.refl _ _ | assumption | refine Kept.drew ?_ | refine Kept.alloc ?_ _ | refine Kept.setNew ?_ (by first | exact Nat.le_refl _ | exact p4.size | omega) _))) (first
      | (go_at_call 12; refine Calls.mono (HFi.out _) ?_; rintro e v4 ⟨rfl, m4⟩; have p4 : Kept (fun _ => True) w5 v4 := Kept.trans (by first | assumption | (repeat (first | exact Kept.refl _ _ | assumption | refine Kept.drew ?_ | refine Kept.alloc ?_ _ | refine Kept.setNew ?_ (by first | exact Nat.le_refl _ | exact p4.size | omega) _))) m4; try (have hz4 := (m4.block w5.heap.size (by simp) trivial).trans (heap_alloc_new w5.drew _)); clear m4)
      | (go_at_call 6; refine Calls.mono (HAp.out _ (by first | assumption | (repeat (first | exact Kept.refl _ _ | assumption | refine Kept.drew ?_ | refine Kept.alloc ?_ _ | refine Kept.setNew ?_ (by first | exact Nat.le_refl _ | exact p4.size | omega) _)))) ?_; rintro e v5 ⟨xa, xd, xg, rfl, hso, m5⟩; obtain ⟨b1, d1, b2, d2, b3, d3, rfl, rfl, rfl⟩ := hso.shapes; have HS5 : Hid _ := hso; have p5 : Kept (fun _ => True) w5 v5 := Kept.trans (by first | assumption | (repeat (first | exact Kept.refl _ _ | assumption | refine Kept.drew ?_ | refine Kept.alloc ?_ _ | refine Kept.setNew ?_ (by first | exact Nat.le_refl _ | exact p4.size | omega) _))) m5; first | (have hz5 := (m5.block v4.heap.size (by simp) trivial).trans (heap_alloc_new v4 _); have HZ5 : Hid (v4.heap.size < v5.heap.size) := lt_of_block hz5; obtain ⟨⟨r0, r1, r2, r3⟩, e0, e1, e2, e3⟩ := four_cell hz5) | (have hz5 := (m5.block w5.heap.size (lt_of_block hz4) trivial).trans hz4; obtain ⟨⟨r0, r1, r2, r3⟩, e0, e1, e2, e3⟩ := four_cell hz5) | skip; clear m5 hso))
    all_goals
      go_wp2_with fail
      go_meet
      first
        | exact ⟨_, _, _, _, _, _, _, rfl, rfl, rfl, Ap.late p5 HS5.out (by first | exact Nat.le_refl _ | exact p4.size | simp)⟩
        | exact ⟨_, _, _, _, _, _, _, rfl, rfl, rfl, Ap.early p5 HS5.out hz5 (by first | exact Nat.le_refl _ | exact p4.size) (by first | exact lt_of_block hz4 | simp)⟩
  case rest =>
  obtain ⟨D2, _, _, _, _, _, _, rfl, rfl, rfl, hap⟩ := hcut
  simp only [HA2.out]
  have KW6 : Hid (Kept (fun _ => True) w5 wc) := hap.kept
  have ht1 := text_any (HTy5.out.all KW6.out) (StV.all HSt5.out KW6.out) HG0.out HF1.out (HTb.out.all (KW5.out.trans KW6.out)) (text_short HG0.out HF1.out)
  rw [HX1.out] at ht1
  have hT6 := (KW6.out.block _ (lt_of_block HT5.out) trivial).trans HT5.out
  have hS6 := (KW6.out.block _ (lt_of_block HS5.out) trivial).trans HS5.out
  obtain ⟨⟨y0, y1, y2, y3⟩, _⟩ := four_cell hT6
  obtain ⟨⟨z0, z1, z2, z3⟩, _⟩ := four_cell hS6
  have HT6 : Hid _ := hT6
  clear hap Y0 Y1 Y2 Y3 Z0 Z1 Z2 Z3 kd HAp hT6 hS6
  go_wp2_with fail
  refine Calls.mono ht1 ?_
  rintro e w7 ⟨rfl, k7⟩
  have KW7 : Hid (Kept (fun _ => True) w5 w7) := KW6.out.trans k7
  have ht2 := text_any (HTy5.out.all KW7.out) (StV.all HStc.out KW7.out) HG0.out HF2.out (HTb.out.all (KW5.out.trans KW7.out)) (text_short HG0.out HF2.out)
  rw [HX2.out] at ht2
  have hT7 := (k7.block _ (lt_of_block HT6.out) trivial).trans HT6.out
  have hS7 := (KW7.out.block _ (lt_of_block HBx.out) trivial).trans HBx.out
  clear ht1 y0 y1 y2 y3 z0 z1 z2 z3 k7
  obtain ⟨⟨y0, y1, y2, y3⟩, _⟩ := four_cell hT7
  obtain ⟨⟨z0, z1, z2, z3⟩, _⟩ := four_cell hS7
  clear hT7 hS7
  go_wp2_with fail
  refine Calls.mono ht2 ?_
  rintro e w8 ⟨rfl, k8⟩
  go_wp2_with fail
  go_ret
  exact ⟨rfl, (KW5.out.trans KW7.out).trans k8⟩

end Go.Proofs.YtnddpalngjmhnabDoor
