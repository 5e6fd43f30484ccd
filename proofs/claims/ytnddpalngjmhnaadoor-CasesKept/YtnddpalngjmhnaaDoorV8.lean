/-
  copied.
-/
import Derived.Test.YtnddpalngjmhnaaDoorV5
import Derived.Test.YtnddpalngjmhnaaDoorVOrd
import Derived.Laws.ResultCell
namespace Go.Proofs.YtnddpalngjmhnaaDoor
open Go.RowKit

theorem Tryd.sizeState : (Tryd.prog.info? 31).map (·.size) = some 4 := by kernel_rfl
theorem load_state {w : World} {g : Nat} {cs : Array Value} {t : TypeId} {fr : Nat × Nat} (hg : w.heap[g]? = some (.cells cs t fr)) (hc : cs.size = 4) : (loadVar 31 ⟨g, 0, none⟩).run Tryd.prog w = .ok (.agg cs) w :=
  run_loadVar_row w g t 31 cs fr _ hg Tryd.underlying31 rfl (by rw [hc]; exact Tryd.sizeState)
theorem results_state {fn : Func} {p : Nat} (h : fn.results = #[.cell p 31]) (tmps : Array Value) (w : World) {g : Nat} {cs : Array Value} {t : TypeId} {fr : Nat × Nat} (hp : tmps.getD p undef = .pointer (some ⟨g, 0, none⟩)) (hg : w.heap[g]? = some (.cells cs t fr)) (hc : cs.size = 4) :
    (results fn tmps).run Tryd.prog w = .ok (.agg cs) w :=
  results_cell_row h tmps w g t cs fr _ hp hg Tryd.underlying31 rfl (by rw [hc]; exact Tryd.sizeState)
theorem results_three {fn : Func} {p u q : Nat} {ty : TypeId} (h : fn.results = #[.cell p ty, .tmp u, .tmp q]) (tmps : Array Value) (w : World) {g : Nat} {v : Value} (hp : tmps.getD p undef = .pointer (some ⟨g, 0, none⟩)) (hl : (loadVar ty ⟨g, 0, none⟩).run Tryd.prog w = .ok v w) :
    (results fn tmps).run Tryd.prog w = .ok (.tuple #[v, tmps.getD u undef, tmps.getD q undef]) w := by
  have hp' : tmps[p]?.getD undef = .pointer (some ⟨g, 0, none⟩) := by simpa using hp
  simp [results, h, hp', asAddr, hl]

/-- The box of a state while its lists are copied. -/
theorem box_three {w : World} {B : Nat} {x a b c : Value} (h : w.heap[B]? = some (.cells #[x, a, b, c] 31 (0, 0))) (a' b' c' : Value) :
    (((w.setCell ⟨B, 1, none⟩ a').setCell ⟨B, 2, none⟩ b').setCell ⟨B, 3, none⟩ c').heap[B]? = some (.cells #[x, a', b', c'] 31 (0, 0)) := by
  have h1 := set_cell h 1 a'
  have h2 := set_cell h1 2 b'
  have h3 := set_cell h2 3 c'
  simpa using h3

theorem copied_end {w w1 v7 wf : World} {B b1 b2 b3 : Nat} {va vd vg : Value} {s : Sa} (hB : B = w.heap.size) (k0 : Kept (fun _ => True) w w1) (p7 : Kept (fun _ => True) w1 v7) (hlt : B + 1 < w1.heap.size) (kf : Kept (fun i => i ≠ B ∧ i ≠ B + 1) v7 wf)
    (ha : v7.ownsRow b1 3 1 va s.vals.length (iv s.vals)) (hd : v7.ownsRow b2 4 1 vd s.done.length (bv s.done)) (hg : v7.ownsRow b3 4 1 vg s.got.length (bv s.got)) (l1 : w1.heap.size ≤ b1) (l2 : w1.heap.size ≤ b2) (l3 : w1.heap.size ≤ b3) (hap : ∀ k, vd.ownBlock = some k → k < b3) :
    So wf w.heap.size va vd vg s ∧ Kept (fun _ => True) w wf := by
  subst hB
  refine ⟨⟨own_keep (ownsRow_low ha (by omega)) kf (fun k e => ?_), own_keep (ownsRow_low hd (by omega)) kf (fun k e => ?_), own_keep (ownsRow_low hg (by omega)) kf (fun k e => ?_), fun k e q => ?_⟩, (k0.trans p7).then kf (fun i hi _ => by omega)⟩
  · have := (ha.lt k e).1; omega
  · have := (hd.lt k e).1; omega
  · have := (hg.lt k e).1; omega
  · have h1 := hap k e; have h2 := (hg.lt k q).1; omega
set_option maxRecDepth 100000 in
set_option maxHeartbeats 16000000 in
theorem copied_any {w : World} {sv : Value} {s : Sa} (hs : StV w sv s) (f : Few s) :
    Calls Tryd.prog 34 #[sv] w fun e w' => ∃ va vd vg, e = .returned (.agg #[.string ⟨s.type.toArray⟩, va, vd, vg]) ∧ So w' w.heap.size va vd vg s ∧ Kept (fun _ => True) w w' := by
  obtain ⟨va, vd, vg, rfl, h1, h2, h3⟩ := hs
  have HV : Hid (Cv w va (iv s.vals)) := h1
  have HE : Hid (Cv w vd (bv s.done)) := h2
  have HG : Hid (Cv w vg (bv s.got)) := h3
  obtain ⟨vo, vc, rfl, -, -⟩ := h1.ints
  obtain ⟨eo, ec, rfl, -, -⟩ := h2.bools
  obtain ⟨go, gc, rfl, -, -⟩ := h3.bools
  have hk : Kept (fun _ => True) w ((w.alloc (.cells #[.string ⟨s.type.toArray⟩, .slice vo s.vals.length vc, .slice eo s.done.length ec, .slice go s.got.length gc] 31)).alloc (.cells #[.string ⟨#[]⟩, .slice none 0 0, .slice none 0 0, .slice none 0 0] 31)) := ((Kept.refl _ _).alloc _).alloc _
  obtain ⟨x1, x2⟩ := alloc_two w (.cells #[.string ⟨s.type.toArray⟩, .slice vo s.vals.length vc, .slice eo s.done.length ec, .slice go s.got.length gc] 31) (.cells #[.string ⟨#[]⟩, .slice none 0 0, .slice none 0 0, .slice none 0 0] 31)
  have HF : Hid (Few s) := f
  have K0 : Hid _ := hk
  clear h1 h2 h3 f hk
  go_enter Tryd.func34, Tryd.ntmps34
  go_upto_region 1 with fail
  generalize (w.alloc (.cells #[.string ⟨s.type.toArray⟩, .slice vo s.vals.length vc, .slice eo s.done.length ec, .slice go s.got.length gc] 31)).alloc (.cells #[.string ⟨#[]⟩, .slice none 0 0, .slice none 0 0, .slice none 0 0] 31) = w1 at *
  obtain ⟨B, hB⟩ : ∃ B, B = w.heap.size := ⟨_, rfl⟩
  rw [← hB] at x1 x2 ⊢
  have HB : Hid (B = w.heap.size) := hB
  clear hB
  obtain ⟨⟨z0, z1, z2, z3⟩, _⟩ := four_cell x1
  have X1 : Hid _ := x1
  have X2 : Hid _ := x2
  have Z1 := fun W (q : Kept (fun _ => True) w1 W) => (kept_cell q (lt_of_block x1) trivial).trans z1
  have Z2 := fun W (q : Kept (fun _ => True) w1 W) => (kept_cell q (lt_of_block x1) trivial).trans z2
  have Z3 := fun W (q : Kept (fun _ => True) w1 W) => (kept_cell q (lt_of_block x1) trivial).trans z3
  have ZF := fun W (q : Kept (fun _ => True) w1 W) (o : Nat) => (kept_frozen (o := o) q (lt_of_block x1) trivial)
  clear x1 x2
  have kd : Kept (fun _ => True) w1 w1.drew := (Kept.refl _ _).drew
  refine Gz.begin (fun W => Kept (fun _ => True) w1 W) (fun i => decide (10 ≤ i)) (by kernel_rfl) ?_
  refine Gz.take (i := 0) (oi := { dst := some 3, op := Op.fieldAddr 31 (Operand.tmp 1) 1, type := 0, pos := _, after := #[], guard := none }) (v := ?_) rfl (by kernel_rfl) (by kernel_rfl) (by kernel_rfl) (by kernel_rfl) (fun _ _ _ h => h) (Or.inl ⟨by rfl, ?hy0⟩) kd ?_
  case hy0 => (intro W hSw; (try dsimp only at hSw); go_simp; try with_reducible rfl)
  try simp only [Act.put, List.setIfInBounds_toArray, List.set_cons_zero, List.set_cons_succ]
  refine Gz.take (i := 1) (oi := { dst := some 4, op := Op.load 28 (Operand.tmp 3), type := 28, pos := _, after := #[{ on := 0, ground := Ground.data }], guard := none }) (v := ?_) rfl (by kernel_rfl) (by kernel_rfl) (by kernel_rfl) (by kernel_rfl) (fun _ _ _ h => h) (Or.inl ⟨by rfl, ?hy1⟩) kd ?_
  case hy1 => (intro W hSw; (try dsimp only at hSw); go_simp; try with_reducible rfl)
  try simp only [Act.put, List.setIfInBounds_toArray, List.set_cons_zero, List.set_cons_succ]
  refine Gz.take (i := 3) (oi := { dst := some 6, op := Op.fieldAddr 31 (Operand.tmp 1) 2, type := 0, pos := _, after := #[], guard := none }) (v := ?_) rfl (by kernel_rfl) (by kernel_rfl) (by kernel_rfl) (by kernel_rfl) (fun _ _ _ h => h) (Or.inl ⟨by rfl, ?hy3⟩) kd ?_
  case hy3 => (intro W hSw; (try dsimp only at hSw); go_simp; try with_reducible rfl)
  try simp only [Act.put, List.setIfInBounds_toArray, List.set_cons_zero, List.set_cons_succ]
  refine Gz.take (i := 4) (oi := { dst := some 7, op := Op.load 29 (Operand.tmp 6), type := 29, pos := _, after := #[{ on := 3, ground := Ground.data }], guard := none }) (v := ?_) rfl (by kernel_rfl) (by kernel_rfl) (by kernel_rfl) (by kernel_rfl) (fun _ _ _ h => h) (Or.inl ⟨by rfl, ?hy4⟩) kd ?_
  case hy4 => (intro W hSw; (try dsimp only at hSw); go_simp; try with_reducible rfl)
  try simp only [Act.put, List.setIfInBounds_toArray, List.set_cons_zero, List.set_cons_succ]
  refine Gz.take (i := 6) (oi := { dst := some 9, op := Op.fieldAddr 31 (Operand.tmp 1) 3, type := 0, pos := _, after := #[], guard := none }) (v := ?_) rfl (by kernel_rfl) (by kernel_rfl) (by kernel_rfl) (by kernel_rfl) (fun _ _ _ h => h) (Or.inl ⟨by rfl, ?hy6⟩) kd ?_
  case hy6 => (intro W hSw; (try dsimp only at hSw); go_simp; try with_reducible rfl)
  try simp only [Act.put, List.setIfInBounds_toArray, List.set_cons_zero, List.set_cons_succ]
  refine Gz.take (i := 7) (oi := { dst := some 10, op := Op.load 29 (Operand.tmp 9), type := 29, pos := _, after := #[{ on := 6, ground := Ground.data }], guard := none }) (v := ?_) rfl (by kernel_rfl) (by kernel_rfl) (by kernel_rfl) (by kernel_rfl) (fun _ _ _ h => h) (Or.inl ⟨by rfl, ?hy7⟩) kd ?_
  case hy7 => (intro W hSw; (try dsimp only at hSw); go_simp; try with_reducible rfl)
  try simp only [Act.put, List.setIfInBounds_toArray, List.set_cons_zero, List.set_cons_succ]
  refine Gz.one (i := 2) (o := { dst := some 5, op := Op.call { callee := Callee.value (Operand.func 51), args := #[Operand.tmp 4], argTypes := #[28] }, type := 28, pos := _, after := #[{ on := 1, ground := Ground.data }], guard := none }) (by kernel_rfl) rfl (fun K hK => ?_)
  go_simp
  refine Calls.mono (clone_nums (HV.out.all (K0.out.trans kd)) (iv_one _) (by rw [iv_len]; exact HF.out.vals)) ?_
  rintro e v5 ⟨na, rfl, ha, m5⟩
  rw [iv_len] at ha
  obtain ⟨p1, p2, rfl⟩ := own_shape_any ha
  have p5 : Kept (fun _ => True) w1 v5 := Kept.trans kd m5
  have HA : Hid _ := ha
  clear m5 ha
  try go_wp2_with fail
  refine hK.out _ _ (fun hEarly => p5) ?_
  clear hK K
  try simp only [Act.put, List.setIfInBounds_toArray, List.set_cons_zero, List.set_cons_succ]
  refine Gz.take (i := 9) (oi := { dst := some 12, op := Op.fieldAddr 31 (Operand.tmp 1) 1, type := 0, pos := _, after := #[{ on := 0, ground := Ground.phase }, { on := 1, ground := Ground.phase }, { on := 2, ground := Ground.phase }, { on := 3, ground := Ground.phase }, { on := 4, ground := Ground.phase }, { on := 5, ground := Ground.textOnly Departure.lateStoresUnsure }, { on := 6, ground := Ground.phase }, { on := 7, ground := Ground.phase }, { on := 8, ground := Ground.textOnly Departure.lateStoresUnsure }], guard := none }) (v := ?_) rfl (by kernel_rfl) (by kernel_rfl) (by kernel_rfl) (by kernel_rfl) (fun _ _ _ h => h) (Or.inl ⟨by rfl, ?hy9⟩) p5 ?_
  case hy9 => (intro W hSw; (try dsimp only at hSw); go_simp; try with_reducible rfl)
  try simp only [Act.put, List.setIfInBounds_toArray, List.set_cons_zero, List.set_cons_succ]
  refine Gz.one (i := 5) (o := { dst := some 8, op := Op.call { callee := Callee.value (Operand.func 52), args := #[Operand.tmp 7], argTypes := #[29] }, type := 29, pos := _, after := #[{ on := 4, ground := Ground.data }, { on := 2, ground := Ground.chain }], guard := none }) (by kernel_rfl) rfl (fun K hK => ?_)
  go_simp
  refine Calls.mono (clone_truths (HE.out.all (K0.out.trans p5)) (bv_one _) (by rw [bv_len]; exact HF.out.done)) ?_
  rintro e v6 ⟨nb, rfl, hb, m6⟩
  rw [bv_len] at hb
  obtain ⟨p3, p4, rfl⟩ := own_shape_any hb
  have p6 : Kept (fun _ => True) w1 v6 := Kept.trans p5 m6
  have HA2 : Hid _ := own_keep HA.out m6 (fun _ _ => trivial)
  have HBn : Hid _ := hb
  have L6 : Hid (w1.heap.size ≤ v5.heap.size) := p5.size
  clear m6 hb
  try go_wp2_with fail
  refine hK.out _ _ (fun hEarly => p6) ?_
  clear hK K
  try simp only [Act.put, List.setIfInBounds_toArray, List.set_cons_zero, List.set_cons_succ]
  refine Gz.one (i := 8) (o := { dst := some 11, op := Op.call { callee := Callee.value (Operand.func 52), args := #[Operand.tmp 10], argTypes := #[29] }, type := 29, pos := _, after := #[{ on := 7, ground := Ground.data }, { on := 5, ground := Ground.chain }], guard := none }) (by kernel_rfl) rfl (fun K hK => ?_)
  go_simp
  refine Calls.mono (clone_truths (HG.out.all (K0.out.trans p6)) (bv_one _) (by rw [bv_len]; exact HF.out.got)) ?_
  rintro e v7 ⟨nc, rfl, hc, m7⟩
  rw [bv_len] at hc
  obtain ⟨p8, p9, rfl⟩ := own_shape_any hc
  have p7 : Kept (fun _ => True) w1 v7 := Kept.trans p6 m7
  have HA3 : Hid _ := own_keep HA2.out m7 (fun _ _ => trivial)
  have HBn2 : Hid _ := own_keep HBn.out m7 (fun _ _ => trivial)
  have HCn : Hid _ := hc
  have L7 : Hid (w1.heap.size ≤ v6.heap.size) := p6.size
  have L8 : Hid (∀ k, (Value.slice p3 s.done.length p4).ownBlock = some k → k < v6.heap.size) := fun k e => (World.ownsRow.lt HBn.out k e).2
  clear m7 hc
  try go_wp2_with fail
  refine hK.out _ _ (fun hEarly => p7) ?_
  clear hK K
  try simp only [Act.put, List.setIfInBounds_toArray, List.set_cons_zero, List.set_cons_succ]
  have hb7 := (p7.block B (lt_of_block X1.out) trivial).trans X1.out
  obtain ⟨⟨y0, y1, y2, y3⟩, f1, f2, f3⟩ := four_cell hb7
  have HB7 : Hid _ := hb7
  have P7 : Hid (Kept (fun _ => True) w1 v7) := p7
  clear z0 z1 z2 z3 Z1 Z2 Z3 ZF kd p5 p6 p7 hb7
  refine Gz.one (i := 10) (o := { dst := none, op := Op.store 28 (Operand.tmp 12) (Operand.tmp 5), type := 0, pos := _, after := #[{ on := 9, ground := Ground.data }, { on := 2, ground := Ground.data }, { on := 8, ground := Ground.chain }, { on := 0, ground := Ground.phase }, { on := 1, ground := Ground.phase }, { on := 2, ground := Ground.phase }, { on := 3, ground := Ground.phase }, { on := 4, ground := Ground.phase }, { on := 5, ground := Ground.textOnly Departure.lateStoresUnsure }, { on := 6, ground := Ground.phase }, { on := 7, ground := Ground.phase }, { on := 8, ground := Ground.textOnly Departure.lateStoresUnsure }], guard := none }) (by kernel_rfl) rfl (fun K hK => ?_)
  go_simp
  refine hK.out _ _ (fun hEarly => by cases hEarly) ?_
  clear hK K
  try simp only [Act.put, List.setIfInBounds_toArray, List.set_cons_zero, List.set_cons_succ]
  refine Gz.one (i := 11) (o := { dst := some 13, op := Op.fieldAddr 31 (Operand.tmp 1) 2, type := 0, pos := _, after := #[{ on := 0, ground := Ground.phase }, { on := 1, ground := Ground.phase }, { on := 2, ground := Ground.phase }, { on := 3, ground := Ground.phase }, { on := 4, ground := Ground.phase }, { on := 5, ground := Ground.phase }, { on := 6, ground := Ground.phase }, { on := 7, ground := Ground.phase }, { on := 8, ground := Ground.textOnly Departure.lateStoresUnsure }, { on := 9, ground := Ground.phase }, { on := 10, ground := Ground.phase }], guard := none }) (by kernel_rfl) rfl (fun K hK => ?_)
  go_simp
  refine hK.out _ _ (fun hEarly => by cases hEarly) ?_
  clear hK K
  try simp only [Act.put, List.setIfInBounds_toArray, List.set_cons_zero, List.set_cons_succ]
  refine Gz.one (i := 12) (o := { dst := none, op := Op.store 29 (Operand.tmp 13) (Operand.tmp 8), type := 0, pos := _, after := #[{ on := 11, ground := Ground.data }, { on := 5, ground := Ground.data }, { on := 10, ground := Ground.chain }, { on := 0, ground := Ground.phase }, { on := 1, ground := Ground.phase }, { on := 2, ground := Ground.phase }, { on := 3, ground := Ground.phase }, { on := 4, ground := Ground.phase }, { on := 5, ground := Ground.phase }, { on := 6, ground := Ground.phase }, { on := 7, ground := Ground.phase }, { on := 8, ground := Ground.textOnly Departure.lateStoresUnsure }, { on := 9, ground := Ground.phase }, { on := 10, ground := Ground.phase }], guard := none }) (by kernel_rfl) rfl (fun K hK => ?_)
  go_simp
  refine hK.out _ _ (fun hEarly => by cases hEarly) ?_
  clear hK K
  try simp only [Act.put, List.setIfInBounds_toArray, List.set_cons_zero, List.set_cons_succ]
  refine Gz.one (i := 13) (o := { dst := some 14, op := Op.fieldAddr 31 (Operand.tmp 1) 3, type := 0, pos := _, after := #[{ on := 0, ground := Ground.phase }, { on := 1, ground := Ground.phase }, { on := 2, ground := Ground.phase }, { on := 3, ground := Ground.phase }, { on := 4, ground := Ground.phase }, { on := 5, ground := Ground.phase }, { on := 6, ground := Ground.phase }, { on := 7, ground := Ground.phase }, { on := 8, ground := Ground.phase }, { on := 9, ground := Ground.phase }, { on := 10, ground := Ground.phase }, { on := 11, ground := Ground.phase }, { on := 12, ground := Ground.phase }], guard := none }) (by kernel_rfl) rfl (fun K hK => ?_)
  go_simp
  refine hK.out _ _ (fun hEarly => by cases hEarly) ?_
  clear hK K
  try simp only [Act.put, List.setIfInBounds_toArray, List.set_cons_zero, List.set_cons_succ]
  refine Gz.one (i := 14) (o := { dst := none, op := Op.store 29 (Operand.tmp 14) (Operand.tmp 11), type := 0, pos := _, after := #[{ on := 13, ground := Ground.data }, { on := 8, ground := Ground.data }, { on := 12, ground := Ground.chain }, { on := 0, ground := Ground.phase }, { on := 1, ground := Ground.phase }, { on := 2, ground := Ground.phase }, { on := 3, ground := Ground.phase }, { on := 4, ground := Ground.phase }, { on := 5, ground := Ground.phase }, { on := 6, ground := Ground.phase }, { on := 7, ground := Ground.phase }, { on := 8, ground := Ground.phase }, { on := 9, ground := Ground.phase }, { on := 10, ground := Ground.phase }, { on := 11, ground := Ground.phase }, { on := 12, ground := Ground.phase }], guard := none }) (by kernel_rfl) rfl (fun K hK => ?_)
  go_simp
  refine hK.out _ _ (fun hEarly => by cases hEarly) ?_
  clear hK K
  try simp only [Act.put, List.setIfInBounds_toArray, List.set_cons_zero, List.set_cons_succ]
  refine Gz.done (by kernel_rfl) ?_ _
  have hb := box_three HB7.out (.slice p1 s.vals.length p2) (.slice p3 s.done.length p4) (.slice p8 s.got.length p9)
  have hr := ((((Kept.refl (· ≠ B) v7).setCell (ad := ⟨B, 1, none⟩) (by simp) (.slice p1 s.vals.length p2)).setCell (ad := ⟨B, 2, none⟩) (by simp) (.slice p3 s.done.length p4)).setCell (ad := ⟨B, 3, none⟩) (by simp) (.slice p8 s.got.length p9)).block (B + 1) (by have := P7.out.size; have := lt_of_block X2.out; omega) (by omega)
  have hr2 := (hr.trans (P7.out.block (B + 1) (lt_of_block X2.out) trivial)).trans X2.out
  have kf : Kept (fun i => i ≠ B ∧ i ≠ B + 1) v7 (((v7.setCell ⟨B, 1, none⟩ (.slice p1 s.vals.length p2)).setCell ⟨B, 2, none⟩ (.slice p3 s.done.length p4)).setCell ⟨B, 3, none⟩ (.slice p8 s.got.length p9)) := (((Kept.refl _ v7).setCell (by simp) _).setCell (by simp) _).setCell (by simp) _
  have KF : Hid _ := kf
  have HR2 : Hid _ := hr2
  clear y0 y1 y2 y3 hr hr2 kf
  generalize ((v7.setCell ⟨B, 1, none⟩ (.slice p1 s.vals.length p2)).setCell ⟨B, 2, none⟩ (.slice p3 s.done.length p4)).setCell ⟨B, 3, none⟩ (.slice p8 s.got.length p9) = w8 at *
  obtain ⟨⟨z0, z1, z2, z3⟩, _⟩ := four_cell hb
  obtain ⟨⟨r0, r1, r2, r3⟩, _⟩ := four_cell HR2.out
  clear hb
  go_wp2_with fail
  obtain ⟨q1, q2⟩ := copied_end HB.out K0.out P7.out (lt_of_block X2.out) ((((KF.out.setCell (ad := ⟨B + 1, 0, none⟩) (by simp) (.string ⟨s.type.toArray⟩)).setCell (ad := ⟨B + 1, 1, none⟩) (by simp) (.slice p1 s.vals.length p2)).setCell (ad := ⟨B + 1, 2, none⟩) (by simp) (.slice p3 s.done.length p4)).setCell (ad := ⟨B + 1, 3, none⟩) (by simp) (.slice p8 s.got.length p9)) HA3.out HBn2.out HCn.out (Nat.le_refl _) L6.out L7.out L8.out
  refine bodyPost_ret (results_state rfl _ _ rfl (set_cell (set_cell (set_cell (set_cell HR2.out 0 _) 1 _) 2 _) 3 _) rfl) rfl ?_
  exact ⟨_, _, _, rfl, q1, q2⟩

end Go.Proofs.YtnddpalngjmhnaaDoor
