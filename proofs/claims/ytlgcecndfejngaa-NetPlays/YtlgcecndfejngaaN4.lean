/-
  The program's net: Send and Twice.
-/
import Derived.Test.YtlgcecndfejngaaN3
namespace Go.Proofs.Ytlgcecndfejngaa
open Go.RowKit

/-- copied at a step of a region that draws its order. -/
theorem step_copied {w : World} {ops : Array Oper} {o : Oper} {a : Act} {K : Act → World → Prop} {Q : Exit → Act → World → Prop} {E : Prop} (hgd : o.guard = none) (y : Operand)
    (ho : o.op = .call { callee := .value (.func 23), args := #[y], argTypes := #[30] }) {f t : Int} {ao : Option Addr} {cap : Nat} {bs : List UInt8} (hy : a.eval y = .agg #[.int .i64 f, .int .i64 t, .slice ao bs.length cap])
    (hh : Has w ao bs) (hn : ao = none → cap = 0) (hl : bs.length ≤ 140737488355328)
    (h : ∀ bo bc w', w'.ownsRow w.heap.size 5 1 (.slice bo bs.length bc) bs.length (cells bs) → Kept (fun _ => True) w w' → K (a.put o.dst (.agg #[.int .i64 f, .int .i64 t, .slice bo bs.length bc])) w') : if Region.wanted o (yielded ops a.tmps) = true then Oper.wp Try.prog o a w K Q else E := by
  have hw : Region.wanted o (yielded ops a.tmps) = true := by simp [Region.wanted, hgd]
  rw [if_pos hw]
  have hrun : (execOp a.eval o).run Try.prog w = .ok (.enter 23 #[.agg #[.int .i64 f, .int .i64 t, .slice ao bs.length cap]]) w := by
    have hf : a.eval (.func 23) = .func (.func 23) #[] #[] := rfl
    unfold execOp
    simp only [ho, resolve, List.map_toArray, List.map_cons, List.map_nil, hy, hf]
    rfl
  unfold Oper.wp
  rw [hrun, Oper.upon_enter]
  refine (copied_any hh hn hl).mono ?_
  rintro e w' ⟨bo, bc, rfl, h1, h2⟩
  exact h bo bc w' h1 h2

/-- One message more, in a row that was appended to. -/
theorem Net1.put {w w2 w3 : World} {B : Nat} {F : Nat → Prop} {v nv : Value} {ps : List (Ms × Value)} {n s : Int} {p : Ms × Value} {o : Obj} {m : Nat} (h : Net1 w B F v ps n s) (k02 : Kept (fun _ => True) w w2) (h1 : p.2.oneCell' = true) (hm : m = ps.length + 1) (ho3 : w3.ownsRow 0 30 3 nv m (row (ps.map cell3) ++ row [cell3 p])) (hg3 : (w2.alloc o).grownBy w3 v.ownBlock) (hat : nv.ownBlock = v.ownBlock ∨ nv.ownBlock = some (w2.alloc o).heap.size) (hl : ps.length < 512) :
    NStep 57 30 w2 (w3.setCell ⟨B, 1, none⟩ nv) B v nv ((ps ++ [p]).map cell3) n s := by
  have e : (ps ++ [p]).map cell3 = ps.map cell3 ++ [cell3 p] := by simp
  rw [e]
  exact (h.nt.kept k02 trivial (fun _ _ => trivial)).grow ((Kept.refl _ _).alloc o) (by simpa using hm) (by omega) h1 ho3 hg3 hat

theorem Net1.sent {w w2 w' : World} {B : Nat} {F : Nat → Prop} {v v' : Value} {ps : List (Ms × Value)} {n s s' : Int} {f t : Int} {u : Value} {bs : List UInt8} (h : Net1 w B F v ps n s) (k02 : Kept (fun _ => True) w w2) (ho2 : w2.ownsRow w.heap.size 5 1 u bs.length (cells bs)) (hb : bs.length ≤ 140737488355328) (st : NStep 57 30 w2 w' B v v' ((ps ++ [((⟨f, t, bs⟩ : Ms), u)]).map cell3) n s') :
    ∃ F' v' u, St1 w w' B F F' v' (ps ++ [(⟨f, t, bs⟩, u)]) n s' := by
  have hge : ∀ x, u.ownBlock = some x → w.heap.size ≤ x := fun x hx => (ho2.lt x hx).1
  have hne : ∀ x, u.ownBlock = some x → x ≠ B ∧ v.ownBlock ≠ some x := fun x hx => ⟨by have := hge x hx; have := h.nt.lt; omega, fun q => by have := hge x hx; have := h.nt.rowlt x q; omega⟩
  refine ⟨_, v', u, h.more (st.after k02) (fun G _ hG => ⟨own_kept (own_zero ho2) st.kept hne, hb, fun x hx => hG x (hge x hx) ?_⟩)⟩
  exact Nat.lt_of_lt_of_le (ho2.lt x hx).2 st.kept.size

section
variable {w : World} {B : Nat} {F : Nat → Prop} {v : Value} {ps : List (Ms × Value)} {n s : Int}

set_option maxHeartbeats 400000 in
theorem send_bad (h : Net1 w B F v ps n s) (f t : Int) (hb : ¬ ((0 ≤ f ∧ f < n) ∧ (0 ≤ t ∧ t < n))) (ao : Option Addr) (len cap : Nat) :
    Calls Try.prog 9 #[.pointer (some ⟨B, 0, none⟩), .int .i64 f, .int .i64 t, .slice ao len cap] w fun r w' => r = .returned (.int .i64 1) ∧ w' = w := by
  have c1 := has_any h.nt f
  have c2 := has_any h.nt t
  clear h
  by_cases h1 : 0 ≤ f ∧ f < n
  · have h2 : ¬ (0 ≤ t ∧ t < n) := fun q => hb ⟨h1, q⟩
    rw [show decide (0 ≤ f ∧ f < n) = true from decide_eq_true h1] at c1
    rw [show decide (0 ≤ t ∧ t < n) = false from decide_eq_false h2] at c2
    clear hb h1 h2
    go_enter Try.func9, Try.ntmps9
    go_wp2_with fail
    refine Calls.mono c1 ?_
    rintro e w ⟨rfl, rfl⟩
    go_wp2_with fail
    refine Calls.mono c2 ?_
    rintro e w ⟨rfl, rfl⟩
    go_wp2
    go_ret
    exact ⟨rfl, rfl⟩
  · rw [show decide (0 ≤ f ∧ f < n) = false from decide_eq_false h1] at c1
    clear hb h1 c2
    go_enter Try.func9, Try.ntmps9
    go_wp2_with fail
    refine Calls.mono c1 ?_
    rintro e w ⟨rfl, rfl⟩
    go_wp2
    go_ret
    exact ⟨rfl, rfl⟩

set_option maxHeartbeats 400000 in
theorem send_full (h : Net1 w B F v ps n s) (f t : Int) (h1 : 0 ≤ f ∧ f < n) (h2 : 0 ≤ t ∧ t < n) (hl : 512 ≤ ps.length) (ao : Option Addr) (len cap : Nat) :
    Calls Try.prog 9 #[.pointer (some ⟨B, 0, none⟩), .int .i64 f, .int .i64 t, .slice ao len cap] w fun r w' => r = .returned (.int .i64 13) ∧ w' = w := by
  have c1 := has_any h.nt f
  have c2 := has_any h.nt t
  have c3 := full_any h.nt
  rw [show decide (0 ≤ f ∧ f < n) = true from decide_eq_true h1] at c1
  rw [show decide (0 ≤ t ∧ t < n) = true from decide_eq_true h2] at c2
  rw [List.length_map, show decide (512 ≤ ps.length) = true from decide_eq_true hl] at c3
  clear h h1 h2
  go_enter Try.func9, Try.ntmps9
  go_wp2_with fail
  refine Calls.mono c1 ?_
  rintro e w ⟨rfl, rfl⟩
  go_wp2_with fail
  refine Calls.mono c2 ?_
  rintro e w ⟨rfl, rfl⟩
  go_wp2_with fail
  refine Calls.mono c3 ?_
  rintro e w ⟨rfl, rfl⟩
  go_wp2
  go_ret
  exact ⟨rfl, rfl⟩

set_option maxRecDepth 100000 in
set_option maxHeartbeats 1000000 in
theorem send_any (h : Net1 w B F v ps n s) (f t : Int) (h1 : 0 ≤ f ∧ f < n) (h2 : 0 ≤ t ∧ t < n) (hl : ps.length < 512) (hs : IntKind.i64.wrap (s + 1) = s + 1) {ao : Option Addr} {cap : Nat} {bs : List UInt8} (hh : Has w ao bs) (hn : ao = none → cap = 0) (hb : bs.length ≤ 140737488355328) :
    Calls Try.prog 9 #[.pointer (some ⟨B, 0, none⟩), .int .i64 f, .int .i64 t, .slice ao bs.length cap] w fun r w' => r = .returned (.int .i64 0) ∧ ∃ F' v' u, St1 w w' B F F' v' (ps ++ [(⟨f, t, bs⟩, u)]) n (s + 1) := by
  have c1 := has_any h.nt f
  have c2 := has_any h.nt t
  have c3 := full_any h.nt
  rw [show decide (0 ≤ f ∧ f < n) = true from decide_eq_true h1] at c1
  rw [show decide (0 ≤ t ∧ t < n) = true from decide_eq_true h2] at c2
  rw [List.length_map, show decide (512 ≤ ps.length) = false from decide_eq_false (by omega)] at c3
  have hlt := h.nt.lt
  have hne := h.nt.ne
  have HN : Hid (Net1 w B F v ps n s) := h
  have HH : Hid (Has w ao bs) := hh
  have HA : Hid (ao = none → cap = 0) := hn
  have HR : Hid (w.ownsRow 0 30 3 v ps.length (row (ps.map cell3))) := by have := h.nt.own; rwa [List.length_map] at this
  have kd : Hid (Kept (fun _ => True) w w.drew) := (Kept.refl _ _).drewN 1
  obtain ⟨q0, q1, q2, r0, r1, r2⟩ := three_cell h.nt.self
  have d1 : w.drew.cell? ⟨B, 1, none⟩ = some v := q1
  clear h h1 h2 hh hn
  go_enter Try.func9, Try.ntmps9
  go_wp2_with fail
  refine Calls.mono c1 ?_
  rintro e _ ⟨rfl, rfl⟩
  go_wp2_with fail
  refine Calls.mono c2 ?_
  rintro e _ ⟨rfl, rfl⟩
  go_wp2_with fail
  refine Calls.mono c3 ?_
  rintro e w ⟨rfl, rfl⟩
  clear c1 c2 c3
  go_wp2_with fail
  go_region_law (first
    | (refine step_copied ?_ (.tmp 29) ?_ (f := f) (t := t) (ao := ao) (cap := cap) (bs := bs) ?_ ?_ HA.out hb ?_; (with_reducible rfl); (with_reducible rfl); (simp [Act.eval, Act.put]); exact HH.out.kept kd.out (fun _ _ => trivial); intro bo bc w2 ho2 k2; have k02 : Hid (Kept (fun _ => True) w w2) := kd.out.trans k2; have HO2 : Hid (w2.ownsRow w.heap.size 5 1 (.slice bo bs.length bc) bs.length (cells bs)) := ho2; have d2 : w2.cell? ⟨B, 1, none⟩ = some v := (kept_cell k2 hlt trivial).trans d1; have d3 : (w2.alloc (.cells #[.int .i64 f, .int .i64 t, .slice bo bs.length bc] 30)).cell? ⟨B, 1, none⟩ = some v := (kept_cell (k02.out.alloc _) hlt trivial).trans q1; clear ho2)
    | (refine step_append_msg Try.underlying34 Try.infoMsg Try.cellsMsg (by decide) ?_ (.tmp 25) (.tmp 31) ?_ v ps.length (ps.map cell3) ?_ ?_ ?_ w2.heap.size ?_ (cell3 (⟨f, t, bs⟩, .slice bo bs.length bc)) (0, 0) ?_ rfl (by omega) ?_; (with_reducible rfl); (with_reducible rfl); (simp [Act.eval]); simp; exact row_kept HR.out (k02.out.alloc _) (fun _ _ => trivial); (simp [Act.eval]); exact heap_alloc_new w2 _; intro a3 p3 w3 ho3 hg3 hl3; have hlt3 : B < (w2.alloc (.cells #[.int .i64 f, .int .i64 t, .slice bo bs.length bc] 30)).heap.size := Nat.lt_of_lt_of_le hlt (k02.out.alloc _).size; have hc1 : w3.cell? ⟨B, 1, none⟩ = some v := (hg3.cell_far _ hlt3 (Ne.symm hne)).trans d3; have hf1 : w3.frozen? ⟨B, 1, none⟩ = false := (hg3.frozen_far _ hlt3 (Ne.symm hne)).trans ((kept_frozen (k02.out.alloc _) hlt trivial).trans r1); have hc2 : w3.cell? ⟨B, 2, none⟩ = some (.int .i64 s) := (hg3.cell_far _ hlt3 (Ne.symm hne)).trans ((kept_cell (k02.out.alloc _) hlt trivial).trans q2); have hf2 : w3.frozen? ⟨B, 2, none⟩ = false := (hg3.frozen_far _ hlt3 (Ne.symm hne)).trans ((kept_frozen (k02.out.alloc _) hlt trivial).trans r2); clear hlt3; have HG3 : Hid (World.grownBy _ w3 v.ownBlock) := hg3; have HL3 : Hid _ := hl3; clear hg3 hl3))
  all_goals
    (go_wp2
     go_ret
     have st := HN.out.put (p := (⟨f, t, bs⟩, .slice bo bs.length bc)) k02.out rfl rfl ho3 HG3.out HL3.out hl
     exact ⟨rfl, HN.out.sent k02.out HO2.out hb (st.trans (st.now.count (s + 1)))⟩)

end

end Go.Proofs.Ytlgcecndfejngaa
