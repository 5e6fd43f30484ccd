/-
  The document's net: Take and Drop; the law's 'same'.
-/
import Derived.Test.YtlgcecndfejngaaNR1
namespace Go.Proofs.Ytlgcecndfejngaa
open Go.RowKit

/-- An append of messages that lie in a row, onto a row that was made behind 'base', at a step of a region that draws its order. -/
theorem step_append_row {w : World} {ops : Array Oper} {o : Oper} {a : Act} {K : Act → World → Prop} {Q : Exit → Act → World → Prop} {E : Prop}
    (hgd : o.guard = none) (sl y : Operand) (ho : o.op = .call { callee := .builtin .append, args := #[sl, y], argTypes := #[39, 39] })
    (base : Nat) (v : Value) (xs : List (Int × Int × Value)) (hs : a.eval sl = v) (hown : w.ownsRow base 46 3 v xs.length (row xs)) (hbase : base ≤ w.heap.size) (ad : Addr) (c : Nat) (ys : List (Int × Int × Value)) (hy : a.eval y = .slice (some ad) ys.length c) (hsrc : ∀ j u, (row ys)[j]? = some u → w.cell? (ad.add j) = some u) (h1 : ∀ x ∈ ys, x.2.2.oneCell' = true) (hm : xs.length + ys.length ≤ 600)
    (h : ∀ ao' cap' w', w'.ownsRow base 46 3 (.slice ao' (xs ++ ys).length cap') (xs ++ ys).length (row (xs ++ ys)) → w.grownBy w' v.ownBlock → K (a.put o.dst (.slice ao' (xs ++ ys).length cap')) w') : if Region.wanted o (yielded ops a.tmps) = true then Oper.wp Try.prog o a w K Q else E := by
  have hw : Region.wanted o (yielded ops a.tmps) = true := by simp [Region.wanted, hgd]
  rw [if_pos hw]
  obtain ⟨i, hi, hz0, hz1, hz2⟩ := info_parts Try.infoRef
  obtain ⟨v', w', hr, h2, h3, _, _⟩ := run_append_own_at (P := Try.prog) w base 39 o.type 46 i (.agg #[.int .i64 0, .int .i64 0, .string ⟨#[]⟩]) 3 32 Try.underlying39 hi hz0 hz1 hz2 Try.cellsRef (by decide) v xs.length (row xs) hown ad ys.length c (row ys) (row_length ys) hsrc (row_one h1) (by unfold maxLen; omega) (by omega) hbase
  obtain ⟨ao', cap', rfl⟩ := shape_any h2
  rw [← row_append, ← List.length_append] at h2
  rw [← List.length_append] at hr
  unfold Oper.wp execOp
  simp only [ho, resolve, invoke, builtin, Sem.run_bind, Sem.run_pure, Result.andThen_ok, List.map_toArray, List.map_cons, List.map_nil, hs, hy, hr]
  exact h ao' cap' w' h2 h3

theorem own_fresh (w : World) (base : Nat) (hb : base ≤ w.heap.size) : (w.alloc (.cells #[] 46)).ownsRow base 46 3 (.slice (some ⟨w.heap.size, 0, none⟩) 0 0) ([] : List (Int × Int × Value)).length (row []) :=
  ⟨by simp [row], .inr ⟨w.heap.size, 0, #[], rfl, hb, heap_alloc_new w _, Nat.zero_le _, by unfold maxLen; omega, by simp, by simp [row]⟩⟩

/-- .. while blocks are written that are none of the net's, and not old. -/
theorem NStep.beside {p : Nat → Prop} {t e : TypeId} {a b c : World} {B : Nat} {v v' : Value} {xs : List (Int × Int × Value)} {n s : Int} (h : NStep t e a b B v v' xs n s) (k : Kept p b c) (hB : p B) (hv : ∀ x, v'.ownBlock = some x → p x) (ho : ∀ x, x < a.heap.size → p x) : NStep t e a c B v v' xs n s :=
  ⟨h.now.kept k hB hv, h.kept.then k (fun x hx _ => ho x hx), h.new⟩
/-- Another slice, of new memory. -/
theorem Nt.swapped {t e : TypeId} {w w1 w3 : World} {B : Nat} {v nv : Value} {xs ys zs : List (Int × Int × Value)} {n s : Int} (h : Nt t e w B v xs n s) (k1 : Kept (fun _ => True) w w1) (k3 : Kept (fun _ => True) w1 w3) (ho : w3.ownsRow w1.heap.size e 3 nv ys.length (row ys)) (hz : ys = zs) (h1 : ∀ x ∈ zs, x.2.2.oneCell' = true) (hm : zs.length ≤ 512) : NStep t e w (w3.setCell ⟨B, 1, none⟩ nv) B v nv zs n s := by
  subst hz
  exact ((h.kept k1 trivial (fun _ _ => trivial)).swap (k3.mono (fun _ _ _ => trivial)) (own_zero ho) (fun x hx => .inr (ho.lt x hx).1) h1 hm).after k1

theorem kept_at {w w' : World} {ad : Addr} {i : Nat} {u : Value} (k : Kept (fun _ => True) w w') (h : w.cell? (ad.add i) = some u) : w'.cell? (ad.add i) = some u :=
  (World.cell?_of_block (w := w) (k.block _ (World.block_lt_of_cell? w _ h) trivial)).trans h

section
variable {w w' : World} {B : Nat} {F F' : Nat → Prop} {v v' : Value} {ms : List Ms} {n s : Int}

set_option maxHeartbeats 400000 in
theorem rtake_empty (h : Net2 w B F v [] n s) (k : Int) :
    Calls Try.prog 17 #[.pointer (some ⟨B, 0, none⟩), .int .i64 k] w fun r w' => r = .returned (.tuple #[.agg #[.int .i64 0, .int .i64 0, .string ⟨#[]⟩], .bool false]) ∧ Kept (fun _ => True) w w' := by
  obtain ⟨w0, hw0⟩ : ∃ w0, w0 = w.alloc (.cells #[.int .i64 0, .int .i64 0, .string ⟨#[]⟩] 46) := ⟨_, rfl⟩
  have k0 : Kept (fun _ => True) w w0 := by rw [hw0]; exact (Kept.refl _ _).alloc _
  have c1 := rat_none (h.nt.kept k0 trivial (fun _ _ => trivial)) k
  have hb : w0.heap[w.heap.size]? = some (.cells #[.int .i64 0, .int .i64 0, .string ⟨#[]⟩] 46 (0, 0)) := by rw [hw0]; exact heap_alloc_new w _
  obtain ⟨q0, q1, q2, r0, r1, r2⟩ := three_cell hb
  clear h hb
  go_enter Try.func17, Try.ntmps17
  go_wp2_with fail
  rw [← hw0]
  clear hw0
  refine Calls.mono c1 ?_
  rintro e w0 ⟨rfl, rfl⟩
  go_wp2
  refine bodyPost_ret (v := .tuple #[.agg #[.int .i64 0, .int .i64 0, .string ⟨#[]⟩], .bool false]) (by simp [results, Try.results17, go_sem, *]) rfl ⟨rfl, ?_⟩
  exact ((k0.setNew (by simp) _).setNew (by simp) _).setNew (by simp) _

set_option maxRecDepth 100000 in
set_option maxHeartbeats 4000000 in
theorem rtake_any (h : Net2 w B F v ms n s) (k : Int) (hk : I64 k) {p : Ms} (hp : ms[spot k ms.length]? = some p) :
    Calls Try.prog 17 #[.pointer (some ⟨B, 0, none⟩), .int .i64 k] w fun r w' => r = .returned (.tuple #[.agg #[.int .i64 p.f, .int .i64 p.t, .string ⟨p.b.toArray⟩], .bool true]) ∧ ∃ F' v', St2 w w' B F F' v' (ms.eraseIdx (spot k ms.length)) n s := by
  have h0 : 0 < ms.length := by cases ms with | nil => simp at hp | cons => simp
  obtain ⟨w0, hw0⟩ : ∃ w0, w0 = w.alloc (.cells #[.int .i64 0, .int .i64 0, .string ⟨#[]⟩] 46) := ⟨_, rfl⟩
  have k0 : Kept (fun _ => True) w w0 := by rw [hw0]; exact (Kept.refl _ _).alloc _
  have hr0 : w0.heap[w.heap.size]? = some (.cells #[.int .i64 0, .int .i64 0, .string ⟨#[]⟩] 46 (0, 0)) := by rw [hw0]; exact heap_alloc_new w _
  have n0 : Net2 w0 B F v ms n s := h.kept k0 (fun _ _ => trivial)
  have c1 := rat_any n0.nt (by rw [List.length_map]; omega) k hk
  rw [List.length_map] at c1
  have hj := spot_lt k h0
  generalize spot k ms.length = j at *
  have hpj : ms[j] = p := by simpa [List.getElem?_eq_getElem hj] using hp
  obtain ⟨q0, q1, q2, r0, r1, r2⟩ := three_cell n0.nt.self
  obtain ⟨ao, cap, rfl, hcap, -, hg⟩ := n0.nt.shape
  obtain ⟨g, rfl⟩ := hg (by rw [List.length_map]; omega)
  obtain ⟨x0, x1, x2⟩ := row_cells3 n0.nt.own j (by rw [List.length_map]; exact hj)
  rw [List.getElem_map, hpj] at x0 x1 x2
  rw [List.length_map] at q1 hcap
  obtain ⟨f, t, bs⟩ := p
  have x0' : w0.cell? ⟨g, j * 3, none⟩ = some (.int .i64 f) := x0
  have x1' : w0.cell? ⟨g, j * 3 + 1, none⟩ = some (.int .i64 t) := x1
  have x2' : w0.cell? ⟨g, j * 3 + 2, none⟩ = some (.string ⟨bs.toArray⟩) := x2
  have hm : ms.length ≤ 512 := by have := n0.nt.most; rwa [List.length_map] at this
  have HN : Hid (Net2 w0 B F (.slice (some ⟨g, 0, none⟩) (ms.map rcell).length cap) ms n s) := n0
  have HN0 : Hid (Net2 w B F (.slice (some ⟨g, 0, none⟩) (ms.map rcell).length cap) ms n s) := h
  have K0 : Hid (Kept (fun _ => True) w w0) := k0
  have HL : Hid (∀ x, F x → x < w.heap.size) := h.lt
  have HR0 : Hid (w0.heap[w.heap.size]? = some (.cells #[.int .i64 0, .int .i64 0, .string ⟨#[]⟩] 46 (0, 0))) := hr0
  have HC : Hid (∀ i u, (row (ms.map rcell))[i]? = some u → w0.cell? ⟨g, i, none⟩ = some u) := fun i u hu => by
    have hown := n0.nt.own
    have hil : i < (ms.map rcell).length * 3 := by have := (List.getElem?_eq_some_iff.1 hu).1; rwa [row_length] at this
    exact (hown.cellAt i hil).trans hu
  have hj1 : (j : Int) < (ms.length : Int) := by omega
  have hj0 : (0 : Int) ≤ (j : Int) := by omega
  have hj2 : ¬ ((j : Int) < 0) := by omega
  have hw1 : IntKind.i64.wrap ((j : Int) + 1) = (j : Int) + 1 := by simp [IntKind.wrap, IntKind.bits, IntKind.signed]; omega
  clear x0 x1 x2 hg h hk hp hpj k0 hr0 n0
  go_enter Try.func17, Try.ntmps17
  go_wp2_with fail
  rw [← hw0]
  clear hw0
  refine Calls.mono c1 ?_
  rintro e w0 ⟨rfl, rfl⟩
  clear c1
  go_wp2_with fail
  have hm1 := heap_alloc_new w0 (.cells #[.int .i64 f, .int .i64 t, .string ⟨bs.toArray⟩] 46)
  have K1 : Hid (Kept (fun _ => True) w0 (w0.alloc (.cells #[.int .i64 f, .int .i64 t, .string ⟨bs.toArray⟩] 46))) := (Kept.refl _ _).alloc _
  clear x0' x1' x2' q0 q2 r0 r2
  generalize w0.alloc (.cells #[.int .i64 f, .int .i64 t, .string ⟨bs.toArray⟩] 46) = w1 at *
  have HM1 : Hid (w1.heap[w0.heap.size]? = some (.cells #[.int .i64 f, .int .i64 t, .string ⟨bs.toArray⟩] 46 (0, 0))) := hm1
  have hlt : Hid (B < w0.heap.size) := HN.out.nt.lt
  have hgl : Hid (g < w0.heap.size) := HN.out.nt.rowlt g rfl
  have d1 : w1.cell? ⟨B, 1, none⟩ = some (.slice (some ⟨g, 0, none⟩) ms.length cap) := (kept_cell K1.out hlt.out trivial).trans q1
  have hB1 : Hid (B < w1.heap.size) := Nat.lt_of_lt_of_le hlt.out K1.out.size
  have d2 : (w1.alloc (.cells #[] 46)).cell? ⟨B, 1, none⟩ = some (.slice (some ⟨g, 0, none⟩) ms.length cap) := (kept_cell ((Kept.refl (fun _ => True) w1).alloc _) hB1.out trivial).trans d1
  have e1 : Hid (w1.frozen? ⟨B, 1, none⟩ = false) := (kept_frozen K1.out hlt.out trivial).trans r1
  clear q1 r1 hm1
  obtain ⟨A, hA⟩ : ∃ A : Addr, (if cap = j + 1 then some (⟨g, 0, none⟩ : Addr) else some ⟨g, (j + 1) * 3, none⟩) = some A := by
    by_cases h : cap = j + 1
    · exact ⟨_, by rw [if_pos h]⟩
    · exact ⟨_, by rw [if_neg h]⟩
  obtain ⟨y1, hy1⟩ : ∃ y1, y1 = (ms.map rcell).take j := ⟨_, rfl⟩
  obtain ⟨y2, hy2⟩ : ∃ y2, y2 = (ms.map rcell).drop (j + 1) := ⟨_, rfl⟩
  have l1 : y1.length = j := by rw [hy1, List.length_take, List.length_map]; omega
  have l2 : y2.length = ms.length - (j + 1) := by rw [hy2, List.length_drop, List.length_map]
  have EY : Hid (y1 ++ y2 = (ms.eraseIdx j).map rcell) := by
    show _ = _
    rw [hy1, hy2, List.eraseIdx_eq_take_drop_succ, List.map_append, List.map_take, List.map_drop]
  have O1 : Hid (∀ x ∈ y1, x.2.2.oneCell' = true) := fun x hx => rcell_one ms x (List.mem_of_mem_take (hy1 ▸ hx))
  have O2 : Hid (∀ x ∈ y2, x.2.2.oneCell' = true) := fun x hx => rcell_one ms x (List.mem_of_mem_drop (hy2 ▸ hx))
  have S1 : Hid (∀ i u, (row y1)[i]? = some u → w0.cell? ((⟨g, 0, none⟩ : Addr).add i) = some u) := fun i u hu => by
    rw [WideShapes.add_plain, Nat.zero_add]
    rw [hy1, ← row_take, List.getElem?_take] at hu
    split at hu
    · exact HC.out i u hu
    · cases hu
  have S2 : Hid (∀ i u, (row y2)[i]? = some u → w0.cell? (A.add i) = some u) := fun i u hu => by
    by_cases h : cap = j + 1
    · rw [if_pos h] at hA
      have : y2.length = 0 := by rw [l2]; omega
      rw [List.eq_nil_of_length_eq_zero this] at hu
      simp [row] at hu
    · rw [if_neg h] at hA
      cases hA
      rw [WideShapes.add_plain]
      rw [hy2, ← row_drop, List.getElem?_drop] at hu
      exact HC.out _ u hu
  have sA : ∀ W, (Instr.slice 39 (.slice (some ⟨g, 0, none⟩) ms.length cap) none (some (.int .i64 (j : Int))) none).run Try.prog W = .ok (.slice (some ⟨g, 0, none⟩) j cap) W := fun W => by
    rw [run_slice_h (P := Try.prog) W 39 _ ms.length cap Try.underlying39 .i64 j (by omega) (by omega), size_ref]
    simp [Result.andThen, sliced, Addr.add]
  have sB : ∀ W, (Instr.slice 39 (.slice (some ⟨g, 0, none⟩) ms.length cap) (some (.int .i64 ((j : Int) + 1))) none none).run Try.prog W = .ok (.slice (some A) (ms.length - (j + 1)) (cap - (j + 1))) W := fun W => by
    rw [show ((j : Int) + 1) = ((j + 1 : Nat) : Int) by omega, run_slice_l (P := Try.prog) W 39 _ ms.length cap Try.underlying39 .i64 (j + 1 : Nat) (by omega) (by omega), size_ref]
    simp only [Result.andThen, sliced, Int.toNat_natCast, Option.map_some, WideShapes.add_plain, Nat.zero_add, hA]
  have kd : Hid (Kept (fun _ => True) w1 (w1.drew.alloc (.cells #[] 46))) := ((Kept.refl (fun _ => True) w1).drewN 1).alloc _
  have OF : Hid ((w1.drew.alloc (.cells #[] 46)).ownsRow w1.heap.size 46 3 (.slice (some ⟨w1.heap.size, 0, none⟩) 0 0) ([] : List (Int × Int × Value)).length (row [])) := own_fresh w1.drew _ (Nat.le_refl _)
  clear hy1 hy2 hA HC
  go_region_law (first
    | (refine step_append_row ?_ (.tmp 22) (.tmp 28) ?_ w1.heap.size (.slice (some ⟨w1.heap.size, 0, none⟩) 0 0) [] ?_ OF.out kd.out.size ⟨g, 0, none⟩ cap y1 ?_ (fun i u hu => (kept_at (K1.out.trans kd.out) (S1.out i u hu))) O1.out (by simp [l1]; omega) ?_; (with_reducible rfl); (with_reducible rfl); (simp [Act.eval, Act.put]); (simp [Act.eval, Act.put, l1]); intro a2 p2 w2 ho2 hg2; simp only [List.nil_append] at ho2 ⊢; have k2 : Hid (Kept (fun _ => True) w1 w2) := kd.out.grown hg2 (fun k hk e => by simp [Value.ownBlock] at e; omega); have d3 : w2.cell? ⟨B, 1, none⟩ = some (.slice (some ⟨g, 0, none⟩) ms.length cap) := (kept_cell k2.out hB1.out trivial).trans d1; have HO2 : Hid (w2.ownsRow w1.heap.size 46 3 (.slice a2 y1.length p2) y1.length (row y1)) := ho2; clear ho2 hg2)
    | (refine step_append_row ?_ (.tmp 29) (.tmp 36) ?_ w1.heap.size (.slice a2 y1.length p2) y1 ?_ HO2.out k2.out.size A (cap - (j + 1)) y2 ?_ (fun i u hu => (kept_at (K1.out.trans k2.out) (S2.out i u hu))) O2.out (by simp [l1, l2]; omega) ?_; (with_reducible rfl); (with_reducible rfl); (simp [Act.eval, Act.put, l1]); (simp [Act.eval, Act.put, l2]); intro a3 p3 w3 ho3 hg3; have k3 : Hid (Kept (fun _ => True) w1 w3) := k2.out.grown hg3 (fun k hk e => by have := (HO2.out.lt k e).1; omega); have d4 : w3.cell? ⟨B, 1, none⟩ = some (.slice (some ⟨g, 0, none⟩) ms.length cap) := (kept_cell k3.out hB1.out trivial).trans d1; have e4 : w3.frozen? ⟨B, 1, none⟩ = false := (kept_frozen k3.out hB1.out trivial).trans e1.out; have HO3 : Hid (w3.ownsRow w1.heap.size 46 3 (.slice a3 (y1 ++ y2).length p3) (y1 ++ y2).length (row (y1 ++ y2))) := ho3; generalize hl3 : (y1 ++ y2).length = l3 at *; have HL3 : Hid ((y1 ++ y2).length = l3) := hl3; clear ho3 hg3 hl3))
  all_goals
    (have hs0 : w.heap.size < w0.heap.size := lt_of_block HR0.out
     have st := HN.out.nt.swapped (nv := .slice a3 l3 p3) K1.out k3.out (by rw [← HL3.out]; rw [← HL3.out] at HO3; exact HO3.out) EY.out (rcell_one _) (by rw [List.length_map]; have := List.length_eraseIdx_le ms j; omega)
     have hbm : (w3.setCell ⟨B, 1, none⟩ (.slice a3 l3 p3)).heap[w0.heap.size]? = some (.cells #[.int .i64 f, .int .i64 t, .string ⟨bs.toArray⟩] 46 (0, 0)) := (Below.heap_setCell _ _ _ _ (by have := hlt.out; simp; omega)).trans ((k3.out.block _ (lt_of_block HM1.out) trivial).trans HM1.out)
     have hbr : (w3.setCell ⟨B, 1, none⟩ (.slice a3 l3 p3)).heap[w.heap.size]? = some (.cells #[.int .i64 0, .int .i64 0, .string ⟨#[]⟩] 46 (0, 0)) := (Below.heap_setCell _ _ _ _ (by have := HL.out B HN.out.fB; simp; omega)).trans ((k3.out.block _ (Nat.lt_of_lt_of_le hs0 K1.out.size) trivial).trans ((K1.out.block _ hs0 trivial).trans HR0.out))
     have HS : Hid (NStep 41 46 w0 (w3.setCell ⟨B, 1, none⟩ (.slice a3 l3 p3)) B (.slice (some ⟨g, 0, none⟩) (ms.map rcell).length cap) (.slice a3 l3 p3) ((ms.eraseIdx j).map rcell) n s) := st
     have HW : Hid (∀ x, (Value.slice a3 l3 p3).ownBlock = some x → w1.heap.size ≤ x) := fun x hx => (HO3.out.lt x hx).1
     clear d1 d2 d3 d4 e1 e4 sA sB st HO2 HO3 OF
     generalize w3.setCell ⟨B, 1, none⟩ (.slice a3 l3 p3) = w4 at *
     obtain ⟨q0, q1, q2, r0, r1, r2⟩ := three_cell hbm
     obtain ⟨q3, q4, q5, r3, r4, r5⟩ := three_cell hbr
     clear hbm hbr
     go_wp2
     refine bodyPost_ret (v := .tuple #[.agg #[.int .i64 f, .int .i64 t, .string ⟨bs.toArray⟩], .bool true]) (by simp [results, Try.results17, go_sem, *]) rfl ⟨rfl, ?_⟩
     have kz : Kept (· ≠ w.heap.size) w4 _ := (((Kept.refl (· ≠ w.heap.size) w4).setCell (ad := ⟨w.heap.size, 0, none⟩) (by simp) (.int .i64 f)).setCell (ad := ⟨w.heap.size, 1, none⟩) (by simp) (.int .i64 t)).setCell (ad := ⟨w.heap.size, 2, none⟩) (by simp) (.string ⟨bs.toArray⟩)
     have nn : Net2 w B F (.slice (some ⟨g, 0, none⟩) (ms.map rcell).length cap) ms n s := HN0.out
     exact ⟨_, _, nn.step ((HS.out.after K0.out).beside kz (by have := HL.out B HN.out.fB; omega) (fun x hx => by have := HW.out x hx; have := K1.out.size; omega) (fun x hx => by omega))⟩)

end

end Go.Proofs.Ytlgcecndfejngaa
