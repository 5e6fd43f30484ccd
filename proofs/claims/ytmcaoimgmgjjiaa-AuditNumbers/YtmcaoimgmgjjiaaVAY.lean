/-
  Texts of the proofs, 51 of 53.
-/
import Derived.Test.YtmcaoimgmgjjiaaVAX
import Derived.Test.YtmcaoimgmgjjiaaVAI
namespace Go.Proofs.Ytmcaoimgmgjjiaa
open Go.RowKit Go.Maps Go.Sort

def Sml (r : Rr) : Prop := r.1.tx.length ≤ 1 ∧ r.1.bd.length ≤ 1 ∧ r.1.gs.length ≤ 2
/-- A small record. -/
def RecV (w : World) (v : Value) : Prop := ∃ r : Rr, v = .agg (rcell r).toArray ∧ Gi w r.2.1 r.1.gs ∧ Sml r
/-- A slice of n small records. -/
def RowV (n : Nat) (w : World) (v : Value) : Prop := ∃ (R : Nat) (rs : List Rr), v = .slice (some ⟨R, 0, none⟩) n n ∧ rs.length = n ∧ w.heap[R]? = some (.cells (recS.row rs).toArray 24 (0, 0)) ∧ ∀ r ∈ rs, Gi w r.2.1 r.1.gs ∧ Sml r
/-- A small claim. -/
def ClmV (w : World) (v : Value) : Prop := ∃ c : Uc, v = .agg (ccell c).toArray ∧ Clq w c
/-- A slice of n small claims. -/
def LstV (n : Nat) (w : World) (v : Value) : Prop := ∃ (B : Nat) (cs : List Uc), v = .slice (some ⟨B, 0, none⟩) n n ∧ cs.length = n ∧ Lst w (some ⟨B, 0, none⟩) cs
section
variable {w w' : World} {v : Value} {n : Nat}
theorem RecV.mono (h : RecV w v) (k : Kept (fun _ => True) w w') : RecV w' v := by
  obtain ⟨r, e, hg, hs⟩ := h
  exact ⟨r, e, hg.all k, hs⟩
theorem RowV.mono (h : RowV n w v) (k : Kept (fun _ => True) w w') : RowV n w' v := by
  obtain ⟨R, rs, e, hl, hR, hr⟩ := h
  exact ⟨R, rs, e, hl, (k.block R (lt_of_block hR) trivial).trans hR, fun r hm => ⟨(hr r hm).1.all k, (hr r hm).2⟩⟩
theorem ClmV.mono (h : ClmV w v) (k : Kept (fun _ => True) w w') : ClmV w' v := by
  obtain ⟨c, e, hc⟩ := h
  exact ⟨c, e, hc.all k⟩
theorem LstV.mono (h : LstV n w v) (k : Kept (fun _ => True) w w') : LstV n w' v := by
  obtain ⟨B, cs, e, hl, hL⟩ := h
  exact ⟨B, cs, e, hl, hL.all k⟩

theorem run_recs1 (W : World) (r : Rr) : (Instr.buildSlice 29 1 #[(0, .agg (rcell r).toArray)]).run Try.prog W = .ok (.slice (some ⟨W.heap.size, 0, none⟩) 1 1) (W.alloc (.cells (recS.row [r]).toArray 24)) := by
  obtain ⟨i, hi, h0, h1, _⟩ := info_parts recT.info
  refine run_buildSlice W _ _ 1 _ _ i _ recT.slice hi h0 (by rw [h1]; decide) (by rw [h1]; decide) ?_
  rw [h1]
  kernel_rfl
theorem run_recs2 (W : World) (r s : Rr) : (Instr.buildSlice 29 2 #[(0, .agg (rcell r).toArray), (1, .agg (rcell s).toArray)]).run Try.prog W = .ok (.slice (some ⟨W.heap.size, 0, none⟩) 2 2) (W.alloc (.cells (recS.row [r, s]).toArray 24)) := by
  obtain ⟨i, hi, h0, h1, _⟩ := info_parts recT.info
  refine run_buildSlice W _ _ 2 _ _ i _ recT.slice hi h0 (by rw [h1]; decide) (by rw [h1]; decide) ?_
  rw [h1]
  kernel_rfl
theorem run_recs3 (W : World) (r s t : Rr) : (Instr.buildSlice 29 3 #[(0, .agg (rcell r).toArray), (1, .agg (rcell s).toArray), (2, .agg (rcell t).toArray)]).run Try.prog W = .ok (.slice (some ⟨W.heap.size, 0, none⟩) 3 3) (W.alloc (.cells (recS.row [r, s, t]).toArray 24)) := by
  obtain ⟨i, hi, h0, h1, _⟩ := info_parts recT.info
  refine run_buildSlice W _ _ 3 _ _ i _ recT.slice hi h0 (by rw [h1]; decide) (by rw [h1]; decide) ?_
  rw [h1]
  kernel_rfl
theorem run_clms1 (W : World) (r : Uc) : (Instr.buildSlice 30 1 #[(0, .agg (ccell r).toArray)]).run Try.prog W = .ok (.slice (some ⟨W.heap.size, 0, none⟩) 1 1) (W.alloc (.cells (claimS.row [r]).toArray 27)) := by
  obtain ⟨i, hi, h0, h1, _⟩ := info_parts claimTy.info
  refine run_buildSlice W _ _ 1 _ _ i _ claimTy.slice hi h0 (by rw [h1]; decide) (by rw [h1]; decide) ?_
  rw [h1]
  kernel_rfl
theorem run_clms2 (W : World) (r s : Uc) : (Instr.buildSlice 30 2 #[(0, .agg (ccell r).toArray), (1, .agg (ccell s).toArray)]).run Try.prog W = .ok (.slice (some ⟨W.heap.size, 0, none⟩) 2 2) (W.alloc (.cells (claimS.row [r, s]).toArray 27)) := by
  obtain ⟨i, hi, h0, h1, _⟩ := info_parts claimTy.info
  refine run_buildSlice W _ _ 2 _ _ i _ claimTy.slice hi h0 (by rw [h1]; decide) (by rw [h1]; decide) ?_
  rw [h1]
  kernel_rfl
theorem run_clms3 (W : World) (r s t : Uc) : (Instr.buildSlice 30 3 #[(0, .agg (ccell r).toArray), (1, .agg (ccell s).toArray), (2, .agg (ccell t).toArray)]).run Try.prog W = .ok (.slice (some ⟨W.heap.size, 0, none⟩) 3 3) (W.alloc (.cells (claimS.row [r, s, t]).toArray 27)) := by
  obtain ⟨i, hi, h0, h1, _⟩ := info_parts claimTy.info
  refine run_buildSlice W _ _ 3 _ _ i _ claimTy.slice hi h0 (by rw [h1]; decide) (by rw [h1]; decide) ?_
  rw [h1]
  kernel_rfl
end
section
variable {w : World} {a : Act} {K : Act → World → Prop} {Q : Exit → Act → World → Prop} {d : Nat} {ty : TypeId} {p : String} {af : Array Edge}
set_option maxRecDepth 100000 in
theorem s_recs1 {x : Operand} (h : RecV w (a.eval x)) (hk : ∀ v w', Kept (fun _ => True) w w' → RowV 1 w' v → K (a.put (some d) v) w') : Oper.wp Try.prog ⟨some d, .buildSlice 29 1 #[(0, x)], ty, p, af, none⟩ a w K Q := by
  obtain ⟨r, e, hg, hs⟩ := h
  have e1 := run_recs1 w r
  have k1 : Kept (fun _ => True) w (w.alloc (.cells (recS.row [r]).toArray 24)) := (Kept.refl _ _).alloc _
  have hv := hk (.slice (some ⟨w.heap.size, 0, none⟩) 1 1) _ k1 ⟨w.heap.size, [r], rfl, rfl, heap_alloc_new w _, fun q hq => by rw [List.mem_singleton.1 hq]; exact ⟨hg.all k1, hs⟩⟩
  generalize (recS.row [r]).toArray = A at *
  generalize Value.agg (rcell r).toArray = u0 at *
  clear k1
  unfold Oper.wp execOp
  simp only [Sem.run_bind, Sem.run_pure, List.map_toArray, List.map_cons, List.map_nil, e]
  simp [e1, Oper.upon, Result.andThen]
  exact hv
set_option maxRecDepth 100000 in
theorem s_recs2 {x y : Operand} (h : RecV w (a.eval x)) (h2 : RecV w (a.eval y)) (hk : ∀ v w', Kept (fun _ => True) w w' → RowV 2 w' v → K (a.put (some d) v) w') : Oper.wp Try.prog ⟨some d, .buildSlice 29 2 #[(0, x), (1, y)], ty, p, af, none⟩ a w K Q := by
  obtain ⟨r, e, hg, hs⟩ := h
  obtain ⟨r2, e2, hg2, hs2⟩ := h2
  have e1 := run_recs2 w r r2
  have k1 : Kept (fun _ => True) w (w.alloc (.cells (recS.row [r, r2]).toArray 24)) := (Kept.refl _ _).alloc _
  have hv := hk (.slice (some ⟨w.heap.size, 0, none⟩) 2 2) _ k1 ⟨w.heap.size, [r, r2], rfl, rfl, heap_alloc_new w _, List.forall_mem_cons.2 ⟨⟨hg.all k1, hs⟩, List.forall_mem_cons.2 ⟨⟨hg2.all k1, hs2⟩, fun _ h => by cases h⟩⟩⟩
  generalize (recS.row [r, r2]).toArray = A at *
  generalize Value.agg (rcell r).toArray = u0 at *
  generalize Value.agg (rcell r2).toArray = u1 at *
  clear k1
  unfold Oper.wp execOp
  simp only [Sem.run_bind, Sem.run_pure, List.map_toArray, List.map_cons, List.map_nil, e, e2]
  simp [e1, Oper.upon, Result.andThen]
  exact hv
set_option maxRecDepth 100000 in
theorem s_recs3 {x y z : Operand} (h : RecV w (a.eval x)) (h2 : RecV w (a.eval y)) (h3 : RecV w (a.eval z)) (hk : ∀ v w', Kept (fun _ => True) w w' → RowV 3 w' v → K (a.put (some d) v) w') : Oper.wp Try.prog ⟨some d, .buildSlice 29 3 #[(0, x), (1, y), (2, z)], ty, p, af, none⟩ a w K Q := by
  obtain ⟨r, e, hg, hs⟩ := h
  obtain ⟨r2, e2, hg2, hs2⟩ := h2
  obtain ⟨r3, e3, hg3, hs3⟩ := h3
  have e1 := run_recs3 w r r2 r3
  have k1 : Kept (fun _ => True) w (w.alloc (.cells (recS.row [r, r2, r3]).toArray 24)) := (Kept.refl _ _).alloc _
  have hv := hk (.slice (some ⟨w.heap.size, 0, none⟩) 3 3) _ k1 ⟨w.heap.size, [r, r2, r3], rfl, rfl, heap_alloc_new w _, List.forall_mem_cons.2 ⟨⟨hg.all k1, hs⟩, List.forall_mem_cons.2 ⟨⟨hg2.all k1, hs2⟩, List.forall_mem_cons.2 ⟨⟨hg3.all k1, hs3⟩, fun _ h => by cases h⟩⟩⟩⟩
  generalize (recS.row [r, r2, r3]).toArray = A at *
  generalize Value.agg (rcell r).toArray = u0 at *
  generalize Value.agg (rcell r2).toArray = u1 at *
  generalize Value.agg (rcell r3).toArray = u2 at *
  clear k1
  unfold Oper.wp execOp
  simp only [Sem.run_bind, Sem.run_pure, List.map_toArray, List.map_cons, List.map_nil, e, e2, e3]
  simp [e1, Oper.upon, Result.andThen]
  exact hv
set_option maxRecDepth 100000 in
theorem s_clms1 {x : Operand} (h : ClmV w (a.eval x)) (hk : ∀ v w', Kept (fun _ => True) w w' → LstV 1 w' v → K (a.put (some d) v) w') : Oper.wp Try.prog ⟨some d, .buildSlice 30 1 #[(0, x)], ty, p, af, none⟩ a w K Q := by
  obtain ⟨r, e, hc⟩ := h
  have e1 := run_clms1 w r
  have k1 : Kept (fun _ => True) w (w.alloc (.cells (claimS.row [r]).toArray 27)) := (Kept.refl _ _).alloc _
  have hv := hk (.slice (some ⟨w.heap.size, 0, none⟩) 1 1) _ k1 ⟨w.heap.size, [r], rfl, rfl, lst_new (heap_alloc_new w _) (List.forall_mem_cons.2 ⟨hc.all k1, fun _ h => by cases h⟩) (by simp)⟩
  generalize (claimS.row [r]).toArray = A at *
  generalize Value.agg (ccell r).toArray = u0 at *
  clear k1
  unfold Oper.wp execOp
  simp only [Sem.run_bind, Sem.run_pure, List.map_toArray, List.map_cons, List.map_nil, e]
  simp [e1, Oper.upon, Result.andThen]
  exact hv
set_option maxRecDepth 100000 in
theorem s_clms2 {x y : Operand} (h : ClmV w (a.eval x)) (h2 : ClmV w (a.eval y)) (hk : ∀ v w', Kept (fun _ => True) w w' → LstV 2 w' v → K (a.put (some d) v) w') : Oper.wp Try.prog ⟨some d, .buildSlice 30 2 #[(0, x), (1, y)], ty, p, af, none⟩ a w K Q := by
  obtain ⟨r, e, hc⟩ := h
  obtain ⟨r2, e2, hc2⟩ := h2
  have e1 := run_clms2 w r r2
  have k1 : Kept (fun _ => True) w (w.alloc (.cells (claimS.row [r, r2]).toArray 27)) := (Kept.refl _ _).alloc _
  have hv := hk (.slice (some ⟨w.heap.size, 0, none⟩) 2 2) _ k1 ⟨w.heap.size, [r, r2], rfl, rfl, lst_new (heap_alloc_new w _) (List.forall_mem_cons.2 ⟨hc.all k1, List.forall_mem_cons.2 ⟨hc2.all k1, fun _ h => by cases h⟩⟩) (by simp)⟩
  generalize (claimS.row [r, r2]).toArray = A at *
  generalize Value.agg (ccell r).toArray = u0 at *
  generalize Value.agg (ccell r2).toArray = u1 at *
  clear k1
  unfold Oper.wp execOp
  simp only [Sem.run_bind, Sem.run_pure, List.map_toArray, List.map_cons, List.map_nil, e, e2]
  simp [e1, Oper.upon, Result.andThen]
  exact hv
set_option maxRecDepth 100000 in
theorem s_clms3 {x y z : Operand} (h : ClmV w (a.eval x)) (h2 : ClmV w (a.eval y)) (h3 : ClmV w (a.eval z)) (hk : ∀ v w', Kept (fun _ => True) w w' → LstV 3 w' v → K (a.put (some d) v) w') : Oper.wp Try.prog ⟨some d, .buildSlice 30 3 #[(0, x), (1, y), (2, z)], ty, p, af, none⟩ a w K Q := by
  obtain ⟨r, e, hc⟩ := h
  obtain ⟨r2, e2, hc2⟩ := h2
  obtain ⟨r3, e3, hc3⟩ := h3
  have e1 := run_clms3 w r r2 r3
  have k1 : Kept (fun _ => True) w (w.alloc (.cells (claimS.row [r, r2, r3]).toArray 27)) := (Kept.refl _ _).alloc _
  have hv := hk (.slice (some ⟨w.heap.size, 0, none⟩) 3 3) _ k1 ⟨w.heap.size, [r, r2, r3], rfl, rfl, lst_new (heap_alloc_new w _) (List.forall_mem_cons.2 ⟨hc.all k1, List.forall_mem_cons.2 ⟨hc2.all k1, List.forall_mem_cons.2 ⟨hc3.all k1, fun _ h => by cases h⟩⟩⟩) (by simp)⟩
  generalize (claimS.row [r, r2, r3]).toArray = A at *
  generalize Value.agg (ccell r).toArray = u0 at *
  generalize Value.agg (ccell r2).toArray = u1 at *
  generalize Value.agg (ccell r3).toArray = u2 at *
  clear k1
  unfold Oper.wp execOp
  simp only [Sem.run_bind, Sem.run_pure, List.map_toArray, List.map_cons, List.map_nil, e, e2, e3]
  simp [e1, Oper.upon, Result.andThen]
  exact hv
set_option maxRecDepth 100000 in
theorem s_call {n s : Nat} {g : Int} {t1 t2 : TypeId} (hg : Fits g) (hn : n ≤ 3) (h : RowV n w (a.eval (.tmp s))) (hk : ∀ v w', Kept (fun _ => True) w w' → ClmV w' v → K (a.put (some d) v) w') : Oper.wp Try.prog ⟨some d, .call { callee := .value (.func 9), args := #[.const (.int .i64 g), .tmp s], argTypes := #[t1, t2] }, ty, p, af, none⟩ a w K Q := by
  obtain ⟨R, rs, e, hl, hR, hr⟩ := h
  have cc := clq_any g hg hR (fun r hm => (hr r hm).1) (fun r hm => (hr r hm).2) hl hn
  have e' : a.tmps[s]?.getD undef = .slice (some ⟨R, 0, none⟩) n n := by rw [← e]; simp [Act.eval]
  go_simp
  with_reducible refine Calls.mono cc ?_
  rintro e w' ⟨a', c', bs, rfl, hq, _, _, k⟩
  have := hk (.agg #[.int .i64 g, .slice a' bs.length c']) w' k ⟨⟨g, bs, a', c'⟩, rfl, hq⟩
  exact this
set_option maxRecDepth 100000 in
theorem s_loadR {x : Operand} {X : Nat} {r : Rr} (he : a.eval x = .pointer (some ⟨X, 0, none⟩)) (hX : w.heap[X]? = some (.cells (rcell r).toArray 24 (0, 0))) (hg : Gi w r.2.1 r.1.gs) (hs : Sml r) (hk : ∀ v w', Kept (fun _ => True) w w' → RecV w' v → K (a.put (some d) v) w') : Oper.wp Try.prog ⟨some d, .load 24 x, ty, p, af, none⟩ a w K Q := by
  have e1 := load_rec (w := w) (g := X) (t := 24) (a := .int .i64 r.1.k) (b := .string ⟨r.1.tx.toArray⟩) (c := .slice r.2.1 r.1.gs.length r.2.2) (d := .string ⟨r.1.bd.toArray⟩) hX
  have hv := hk (.agg (rcell r).toArray) w (Kept.refl _ _) ⟨r, rfl, hg, hs⟩
  unfold Oper.wp execOp
  simp only [he, Instr.loadAt, Instr.sureAddr, Sem.run_bind, Sem.run_pure, Result.andThen_ok, e1]
  exact hv
set_option maxRecDepth 100000 in
/-- A record that is built of constants. -/
theorem s_build {parts : Array (Nat × Operand)} {r : Rr} {vs : List (Nat × Value)} (hp : (parts.map fun q => (q.1, a.eval q.2)) = vs.toArray) (hb : Try.prog.built 24 vs = some (rcell r).toArray) (hg : Gi w r.2.1 r.1.gs) (hs : Sml r) (hk : ∀ v w', Kept (fun _ => True) w w' → RecV w' v → K (a.put (some d) v) w') : Oper.wp Try.prog ⟨some d, .build 24 parts, ty, p, af, none⟩ a w K Q := by
  have e1 := run_build w 24 vs.toArray (rcell r).toArray (by simpa using hb)
  have hv := hk (.agg (rcell r).toArray) w (Kept.refl _ _) ⟨r, rfl, hg, hs⟩
  generalize Value.agg (rcell r).toArray = u0 at *
  unfold Oper.wp execOp
  simp only [Sem.run_bind, Sem.run_pure]
  simp [hp, e1, Oper.upon, Result.andThen]
  exact hv
/-- The groups in the wrong order. -/
def IntsV (w : World) (v : Value) : Prop := ∃ G : Nat, v = .slice (some ⟨G, 0, none⟩) 2 2 ∧ Gi w (some ⟨G, 0, none⟩) [1, 0]
theorem IntsV.mono {w w' : World} {v : Value} (h : IntsV w v) (k : Kept (fun _ => True) w w') : IntsV w' v := by
  obtain ⟨G, e, hg⟩ := h
  exact ⟨G, e, hg.all k⟩
set_option maxRecDepth 100000 in
theorem s_ints (hk : ∀ v w', Kept (fun _ => True) w w' → IntsV w' v → K (a.put (some d) v) w') : Oper.wp Try.prog ⟨some d, .buildSlice 22 2 #[(0, .const (.int .i64 1)), (1, .const (.int .i64 0))], ty, p, af, none⟩ a w K Q := by
  have k1 : Kept (fun _ => True) w (w.alloc (.cells #[.int .i64 1, .int .i64 0] 3 (0, 0))) := (Kept.refl _ _).alloc _
  have hv := hk (.slice (some ⟨w.heap.size, 0, none⟩) 2 2) _ k1 ⟨w.heap.size, rfl, gi_row (gs := [1, 0]) (heap_alloc_new w _)⟩
  clear k1
  go_simp
  exact hv
set_option maxRecDepth 100000 in
theorem s_loadC {x : Operand} {X : Nat} {c : Uc} (he : a.eval x = .pointer (some ⟨X, 0, none⟩)) (hX : w.heap[X]? = some (.cells (ccell c).toArray 27 (0, 0))) (hc : Clq w c) (hk : ∀ v w', Kept (fun _ => True) w w' → ClmV w' v → K (a.put (some d) v) w') : Oper.wp Try.prog ⟨some d, .load 27 x, ty, p, af, none⟩ a w K Q := by
  have e1 : (loadVar 27 ⟨X, 0, none⟩).run Try.prog w = .ok (.agg (ccell c).toArray) w := run_loadVar_row w X 27 27 (ccell c).toArray _ _ hX Try.underlying27 rfl Try.sizeClaim
  have hv := hk (.agg (ccell c).toArray) w (Kept.refl _ _) ⟨c, rfl, hc⟩
  generalize Value.agg (ccell c).toArray = u0 at *
  unfold Oper.wp execOp
  simp only [he, Instr.loadAt, Instr.sureAddr, Sem.run_bind, Sem.run_pure, Result.andThen_ok, e1]
  exact hv
/-- The fifteen rows. -/
def AllV (w : World) (v : Value) : Prop := ∃ (B : Nat) (vs : List Value), v = .slice (some ⟨B, 0, none⟩) 15 15 ∧ w.heap[B]? = some (.cells vs.toArray 30 (0, 0)) ∧ vs.length = 15 ∧ ∀ u ∈ vs, ∃ n, n ≤ 3 ∧ LstV n w u
theorem AllV.mono {w w' : World} {v : Value} (h : AllV w v) (k : Kept (fun _ => True) w w') : AllV w' v := by
  obtain ⟨B, vs, e, hB, hl, hr⟩ := h
  exact ⟨B, vs, e, (k.block B (lt_of_block hB) trivial).trans hB, hl, fun u hu => by
    obtain ⟨n, hn, hL⟩ := hr u hu
    exact ⟨n, hn, hL.mono k⟩⟩
theorem run_all (W : World) (ps : List (Nat × Nat)) (h : ps.length = 15) : (Instr.buildSlice 31 15 ((ps.mapIdx fun i q => (i, Value.slice (some ⟨q.1, 0, none⟩) q.2 q.2)).toArray)).run Try.prog W = .ok (.slice (some ⟨W.heap.size, 0, none⟩) 15 15) (W.alloc (.cells (ps.map fun q => Value.slice (some ⟨q.1, 0, none⟩) q.2 q.2).toArray 30)) := by
  obtain ⟨i, hi, hz, hs, _⟩ := info_parts (show (Try.prog.info? 30).map (fun i => (i.zero, i.size, i.bytes)) = some (some (.slice none 0 0), 1, 24) by kernel_rfl)
  refine run_buildSlice W _ _ 15 _ _ i _ Try.underlying31 hi hz (by rw [hs]; decide) (by rw [hs]; decide) ?_
  rw [hs]
  match ps, h with
  | [q0, q1, q2, q3, q4, q5, q6, q7, q8, q9, q10, q11, q12, q13, q14], _ => (show _ = _; kernel_rfl)
set_option maxRecDepth 100000 in
theorem s_all {xs : List Operand} (hl : xs.length = 15) (h : ∀ x ∈ xs, ∃ n, n ≤ 3 ∧ LstV n w (a.eval x)) (hk : ∀ v w', Kept (fun _ => True) w w' → AllV w' v → K (a.put (some d) v) w') : Oper.wp Try.prog ⟨some d, .buildSlice 31 15 (xs.mapIdx fun i x => (i, x)).toArray, ty, p, af, none⟩ a w K Q := by
  have hps : ∃ ps : List (Nat × Nat), xs.map a.eval = ps.map (fun q => Value.slice (some ⟨q.1, 0, none⟩) q.2 q.2) := by
    clear hl
    induction xs with
    | nil => exact ⟨[], rfl⟩
    | cons x xs ih =>
      obtain ⟨ps, hp⟩ := ih (fun y hy => h y (List.mem_cons_of_mem _ hy))
      obtain ⟨n, _, B, _, e, _, _⟩ := h x (by simp)
      exact ⟨(B, n) :: ps, by rw [List.map_cons, List.map_cons, hp, e]⟩
  obtain ⟨ps, hp⟩ := hps
  have hpl : ps.length = 15 := by have := congrArg List.length hp; rw [List.length_map, List.length_map] at this; omega
  have e1 := run_all w ps hpl
  have k1 : Kept (fun _ => True) w (w.alloc (.cells (ps.map fun q => Value.slice (some ⟨q.1, 0, none⟩) q.2 q.2).toArray 30)) := (Kept.refl _ _).alloc _
  have hv := hk (.slice (some ⟨w.heap.size, 0, none⟩) 15 15) _ k1 ⟨w.heap.size, ps.map (fun q => Value.slice (some ⟨q.1, 0, none⟩) q.2 q.2), rfl, heap_alloc_new w _, by rw [List.length_map, hpl], fun u hu => by
    rw [← hp] at hu
    obtain ⟨x, hx, rfl⟩ := List.mem_map.1 hu
    obtain ⟨n, hn, hL⟩ := h x hx
    exact ⟨n, hn, hL.mono k1⟩⟩
  have he : ((xs.mapIdx fun i x => (i, x)).toArray.map fun q => (q.1, a.eval q.2)) = (ps.mapIdx fun i q => (i, Value.slice (some ⟨q.1, 0, none⟩) q.2 q.2)).toArray := by
    rw [List.map_toArray]
    congr 1
    refine List.ext_getElem? fun k => ?_
    have hk := congrArg (fun l => l[k]?) hp
    simp only [List.getElem?_map, List.getElem?_mapIdx] at hk ⊢
    cases hx : xs[k]? <;> cases hq : ps[k]? <;> simp_all
  clear k1 h hp
  generalize (ps.map fun q => Value.slice (some ⟨q.1, 0, none⟩) q.2 q.2).toArray = A at *
  generalize (ps.mapIdx fun i q => (i, Value.slice (some ⟨q.1, 0, none⟩) q.2 q.2)).toArray = C at *
  generalize (xs.mapIdx fun i x => (i, x)).toArray = D at *
  unfold Oper.wp execOp
  simp only [Sem.run_bind, Sem.run_pure]
  simp [he, e1, Oper.upon, Result.andThen]
  exact hv
set_option maxRecDepth 100000 in
theorem s_len {s : Nat} (h : AllV w (a.eval (.tmp s))) (hk : ∀ v w', Kept (fun _ => True) w w' → v = .int .i64 15 → K (a.put (some d) v) w') : Oper.wp Try.prog ⟨some d, .call { callee := .builtin .len, args := #[.tmp s], argTypes := #[31] }, 3, p, af, none⟩ a w K Q := by
  obtain ⟨B, vs, e, _⟩ := h
  have e' : a.tmps[s]?.getD undef = .slice (some ⟨B, 0, none⟩) 15 15 := by rw [← e]; simp [Act.eval]
  have hv := hk (.int .i64 15) w (Kept.refl _ _) rfl
  unfold Oper.wp execOp
  simp only [resolve, invoke, builtin, Sem.run_bind, Sem.run_pure, Result.andThen_ok, List.map_toArray, List.map_cons, List.map_nil, e]
  go_simp
  exact hv
set_option maxRecDepth 100000 in
theorem s_zero (hk : ∀ v w', Kept (fun _ => True) w w' → v = .int .i64 0 → K (a.put (some d) v) w') : Oper.wp Try.prog ⟨some d, .move (.const (.int .i64 0)), ty, p, af, none⟩ a w K Q := by
  have hv := hk (.int .i64 0) w (Kept.refl _ _) rfl
  go_simp
  exact hv
end

end Go.Proofs.Ytmcaoimgmgjjiaa
