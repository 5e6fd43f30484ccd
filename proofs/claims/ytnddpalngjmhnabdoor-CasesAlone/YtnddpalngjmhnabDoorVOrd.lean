/-
  Regions that draw their order, some of whose operations are late: they wait for all that is taken first, so what is held need not hold behind them.
-/
import Derived.Deep.RegionHeld
import Derived.Test.YtnddpalngjmhnabDoorV5
import Derived.Laws.ResultCell
namespace Go.Proofs.YtnddpalngjmhnabDoor
open Go

section
variable {P : Program} {md : Region.Mode} {ops : Array Oper} {Q : Exit → Act → World → Prop} {S : World → Prop} {late : Nat → Bool}

/-- Whatever order is picked: behind each operation that is not late, S. -/
def Gz (P : Program) (md : Region.Mode) (ops : Array Oper) (Q : Exit → Act → World → Prop) (S : World → Prop) (late : Nat → Bool) : Nat → Array Bool → Act → World → Prop
  | 0, done, a, w => Region.ready md ops done = [] ∧ Q .normal a w
  | n + 1, done, a, w => (Region.ready md ops done = [] → Q .normal a w) ∧
      ∀ i ∈ Region.ready md ops done, wpOp P ops Q i (fun a' w' => (late i = false → S w') ∧ Gz P md ops Q S late n (done.setIfInBounds i true) a' w') a w
theorem Gz.any : ∀ (n : Nat) (done : Array Bool) (a : Act) (w : World), Gz P md ops Q S late n done a w → wpAny P md ops Q n done a w
  | 0, _, _, _, h => h
  | n + 1, _, _, _, h => ⟨h.1, fun i hi => wpOp_mono (fun a' w' q => Gz.any n _ a' w' q.2) (h.2 i hi)⟩

/-- Each late one that is still to come waits for i. -/
def waits (md : Region.Mode) (ops : Array Oper) (late : Nat → Bool) (done : Array Bool) (i : Nat) : Bool :=
  (List.range ops.size).all fun j => !(late j) || done.getD j true || (match ops[j]? with
    | none => true
    | some o => o.after.any fun e => Region.binds md e && e.on == i)
theorem waits_spec {done : Array Bool} {i : Nat} (h : waits md ops late done i = true) (j : Nat) (oj : Oper) (hj : ops[j]? = some oj) (hl : late j = true) (hd : done.getD j true = false) : ∃ e ∈ oj.after, Region.binds md e = true ∧ e.on = i := by
  have hlt : j < ops.size := by
    rcases Nat.lt_or_ge j ops.size with h | h
    · exact h
    · rw [Array.getElem?_eq_none h] at hj; cases hj
  have := List.all_eq_true.1 h j (List.mem_range.2 hlt)
  simp only [hl, hd, hj, Bool.not_true, Bool.false_or] at this
  obtain ⟨e, he, hb⟩ := Array.any_eq_true'.1 this
  simp only [Bool.and_eq_true, beq_iff_eq] at hb
  exact ⟨e, he, hb.1, hb.2⟩

theorem not_done {done : Array Bool} {i : Nat} (h0 : done.getD i true = false) (h1 : done.getD i false = true) : False := by
  rcases Nat.lt_or_ge i done.size with h | h
  · simp [h] at h0 h1
    rw [h0] at h1
    cases h1
  · simp [Array.getElem?_eq_none h] at h1
/-- An operation that may come up, and yields v in every world that meets S, may be taken first: what may come ahead of it is not late, so S holds behind that. -/
theorem Gz.first {i : Nat} {oi : Oper} {v : Value} (hi : ops[i]? = some oi) (hs : Region.noSelect ops = true) (hQ : ∀ c a w, Q (.panic c) (a.put oi.dst v) w → Q (.panic c) a w) (n : Nat) :
    ∀ (done : Array Bool) (a : Act) (w : World), (∀ j oj, ops[j]? = some oj → j ≠ i → done.getD j true = false → (∀ e ∈ oj.after, Region.binds md e = true → e.on ≠ i) → oi.apart ops oj = true) →
      (∀ j oj, ops[j]? = some oj → late j = true → done.getD j true = false → ∃ e ∈ oj.after, Region.binds md e = true ∧ e.on = i) →
      i ∈ Region.ready md ops done → YieldsIf P ops S oi v a → S w → Gz P md ops Q S late n (done.setIfInBounds i true) (a.put oi.dst v) w → Gz P md ops Q S late (n + 1) done a w := by
  have sel := Region.noSelect_spec hs
  induction n with
  | zero =>
    intro done a w _ _ hr hy hS H
    refine ⟨fun h => ?_, fun j hj => ?_⟩
    · rw [h] at hr
      cases hr
    · rcases Decidable.em (j = i) with rfl | hne
      · exact hy.wpOp hi hS ⟨fun _ => hS, H⟩
      · have := ready_mono hj hne
        rw [H.1] at this
        cases this
  | succ n ih =>
    intro done a w hfree hlate hr hy hS H
    refine ⟨fun h => ?_, fun j hj => ?_⟩
    · rw [h] at hr
      cases hr
    · rcases Decidable.em (j = i) with rfl | hne
      · exact hy.wpOp hi hS ⟨fun _ => hS, H⟩
      · have hiu := (mem_ready.1 hr).1
        obtain ⟨hju, oj, hoj, hjr⟩ := mem_ready.1 hj
        have hno : ∀ e ∈ oj.after, Region.binds md e = true → e.on ≠ i := fun e he hb q => not_done hiu (by rw [← q]; exact hjr e he hb)
        have hearly : late j = false := by
          cases hl : late j with
          | false => rfl
          | true =>
            obtain ⟨e, he, hb, q⟩ := hlate j oj hoj hl hju
            exact absurd q (hno e he hb)
        have step := wpOp_putIf hoj (hfree j oj hoj hne hju hno) (fun cs b => sel i oi cs b hi) (fun cs b => sel j oj cs b hoj) hQ hy (H.2 j (ready_mono hj hne))
        have less : ∀ k, (done.setIfInBounds j true).getD k true = false → done.getD k true = false := fun k hk => by
          rcases Decidable.em (j = k) with rfl | h
          · exact hju
          · rwa [getD_set_ne true h] at hk
        refine wpOp_mono (fun a' w' q => ⟨q.2.1, ih _ a' w' (fun k ok hk hki hun hn => hfree k ok hk hki (less k hun) hn) (fun k ok hk hl hun => hlate k ok hk hl (less k hun)) (ready_mono hr (Ne.symm hne)) q.1 (q.2.1 hearly) ?_⟩) step
        rw [Array.setIfInBounds_comm _ _ hne]
        exact q.2.2
theorem Gz.take {i : Nat} {oi : Oper} {v : Value} {n : Nat} {done : Array Bool} {a : Act} {w : World} (hi : ops[i]? = some oi) (hs : Region.noSelect ops = true) (hf : Region.free md ops done i = true) (hr : (Region.ready md ops done).contains i = true) (hl : waits md ops late done i = true)
    (hQ : ∀ c a w, Q (.panic c) (a.put oi.dst v) w → Q (.panic c) a w) (hy : YieldsIf P ops S oi v a) (hS : S w) (h : Gz P md ops Q S late n (done.setIfInBounds i true) (a.put oi.dst v) w) : Gz P md ops Q S late (n + 1) done a w :=
  Gz.first hi hs hQ n done a w (Region.free_spec hi hf) (waits_spec hl) (by simpa using hr) hy hS h
/-- The only one that may come up. -/
theorem Gz.one {i : Nat} {o : Oper} {n : Nat} {done : Array Bool} {a : Act} {w : World} (hr : Region.ready md ops done = [i]) (ho : ops[i]? = some o)
    (h : ∀ K' : Act → World → Prop, Shut (∀ a w, (late i = false → S w) → Gz P md ops Q S late n (done.setIfInBounds i true) a w → K' a w) → if Region.wanted o (yielded ops a.tmps) = true then Oper.wp P o a w K' Q else K' (a.put o.dst undef) w) : Gz P md ops Q S late (n + 1) done a w := by
  refine ⟨fun h0 => ?_, fun j hj => ?_⟩
  · rw [hr] at h0
    cases h0
  · rw [hr] at hj
    obtain rfl := List.mem_singleton.1 hj
    exact wpOp_step ho (fun K' hK => h K' (fun a w hS hW => hK a w ⟨hS, hW⟩))
theorem Gz.done {done : Array Bool} {a : Act} {w : World} (hr : Region.ready md ops done = []) (h : Q .normal a w) : ∀ n, Gz P md ops Q S late n done a w
  | 0 => ⟨hr, h⟩
  | _ + 1 => ⟨fun _ => h, by rw [hr]; simp⟩
theorem Gz.begin {id : Nat} {a : Act} {w : World} (S : World → Prop) (late : Nat → Bool) (hm : P.follows .mixedOrders = true) (h : Gz P .any ops Q S late ops.size (Array.replicate ops.size false) a w.drew) : (Code.region id ops true).wp P Q a w :=
  wp_region_any hm (h.any)

end
end Go.Proofs.YtnddpalngjmhnabDoor

namespace Go.Proofs.YtnddpalngjmhnabDoor
open Go.RowKit

theorem Tryd.sizeState : (Tryd.prog.info? 32).map (·.size) = some 4 := by kernel_rfl
theorem load_state {w : World} {g : Nat} {cs : Array Value} {t : TypeId} {fr : Nat × Nat} (hg : w.heap[g]? = some (.cells cs t fr)) (hc : cs.size = 4) : (loadVar 32 ⟨g, 0, none⟩).run Tryd.prog w = .ok (.agg cs) w :=
  run_loadVar_row w g t 32 cs fr _ hg Tryd.underlying32 rfl (by rw [hc]; exact Tryd.sizeState)
theorem results_state {fn : Func} {p : Nat} (h : fn.results = #[.cell p 32]) (tmps : Array Value) (w : World) {g : Nat} {cs : Array Value} {t : TypeId} {fr : Nat × Nat} (hp : tmps.getD p undef = .pointer (some ⟨g, 0, none⟩)) (hg : w.heap[g]? = some (.cells cs t fr)) (hc : cs.size = 4) :
    (results fn tmps).run Tryd.prog w = .ok (.agg cs) w :=
  results_cell_row h tmps w g t cs fr _ hp hg Tryd.underlying32 rfl (by rw [hc]; exact Tryd.sizeState)
theorem results_three {fn : Func} {p u q : Nat} {ty : TypeId} (h : fn.results = #[.cell p ty, .tmp u, .tmp q]) (tmps : Array Value) (w : World) {g : Nat} {v : Value} (hp : tmps.getD p undef = .pointer (some ⟨g, 0, none⟩)) (hl : (loadVar ty ⟨g, 0, none⟩).run Tryd.prog w = .ok v w) :
    (results fn tmps).run Tryd.prog w = .ok (.tuple #[v, tmps.getD u undef, tmps.getD q undef]) w := by
  have hp' : tmps[p]?.getD undef = .pointer (some ⟨g, 0, none⟩) := by simpa using hp
  simp [results, h, hp', asAddr, hl]

/-- The box of a state while its lists are copied. -/
theorem box_three {w : World} {B : Nat} {x a b c : Value} (h : w.heap[B]? = some (.cells #[x, a, b, c] 32 (0, 0))) (a' b' c' : Value) :
    (((w.setCell ⟨B, 1, none⟩ a').setCell ⟨B, 2, none⟩ b').setCell ⟨B, 3, none⟩ c').heap[B]? = some (.cells #[x, a', b', c'] 32 (0, 0)) := by
  have h1 := set_cell h 1 a'
  have h2 := set_cell h1 2 b'
  have h3 := set_cell h2 3 c'
  simpa using h3

theorem copied_end {w w1 v7 wf : World} {B b1 b2 b3 : Nat} {va vd vg : Value} {s : Sa} (hB : B = w.heap.size) (k0 : Kept (fun _ => True) w w1) (p7 : Kept (fun _ => True) w1 v7) (hlt : B + 1 < w1.heap.size) (kf : Kept (fun i => i ≠ B ∧ i ≠ B + 1) v7 wf)
    (ha : v7.ownsRow b1 3 1 va s.vals.length (iv s.vals)) (hd : v7.ownsRow b2 4 1 vd s.done.length (bv s.done)) (hg : v7.ownsRow b3 4 1 vg s.got.length (bv s.got)) (l1 : w1.heap.size ≤ b1) (l2 : w1.heap.size ≤ b2) (l3 : w1.heap.size ≤ b3) (hap : ∀ k, vd.ownBlock = some k → k < b3) :
    So wf w.heap.size va vd vg s ∧ Kept (fun _ => True) w wf := by
  subst hB
  refine ⟨⟨own_keep (ownsRow_low ha (by omega)) kf (fun k e => ?_), own_keep (ownsRow_low hd (by omega)) kf (fun k e => ?_), own_keep (ownsRow_low hg (by omega)) kf (fun k e => ?_), fun k e q => ?_⟩, (k0.trans p7).then kf (fun i hi _ => by omega)⟩
  · have := (ha.lt k e).1; omega
  · have := (hd.lt k e).1; omega
  · have := (hg.lt k e).1; omega
  · have h1 := hap k e; have h2 := (hg.lt k q).1; omega
set_option maxRecDepth 100000 in
set_option maxHeartbeats 16000000 in
theorem copied_any {w : World} {sv : Value} {s : Sa} (hs : StV w sv s) (f : Few s) :
    Calls Tryd.prog 18 #[sv] w fun e w' => ∃ va vd vg, e = .returned (.agg #[.string ⟨s.type.toArray⟩, va, vd, vg]) ∧ So w' w.heap.size va vd vg s ∧ Kept (fun _ => True) w w' := by
  obtain ⟨va, vd, vg, rfl, h1, h2, h3⟩ := hs
  have HV : Hid (Cv w va (iv s.vals)) := h1
  have HE : Hid (Cv w vd (bv s.done)) := h2
  have HG : Hid (Cv w vg (bv s.got)) := h3
  obtain ⟨vo, vc, rfl, -, -⟩ := h1.ints
  obtain ⟨eo, ec, rfl, -, -⟩ := h2.bools
  obtain ⟨go, gc, rfl, -, -⟩ := h3.bools
  have hk : Kept (fun _ => True) w ((w.alloc (.cells #[.string ⟨s.type.toArray⟩, .slice vo s.vals.length vc, .slice eo s.done.length ec, .slice go s.got.length gc] 32)).alloc (.cells #[.string ⟨#[]⟩, .slice none 0 0, .slice none 0 0, .slice none 0 0] 32)) := ((Kept.refl _ _).alloc _).alloc _
  obtain ⟨x1, x2⟩ := alloc_two w (.cells #[.string ⟨s.type.toArray⟩, .slice vo s.vals.length vc, .slice eo s.done.length ec, .slice go s.got.length gc] 32) (.cells #[.string ⟨#[]⟩, .slice none 0 0, .slice none 0 0, .slice none 0 0] 32)
  have HF : Hid (Few s) := f
  have K0 : Hid _ := hk
  clear h1 h2 h3 f hk
  go_enter Tryd.func18, Tryd.ntmps18
  go_upto_region 1 with fail
  generalize (w.alloc (.cells #[.string ⟨s.type.toArray⟩, .slice vo s.vals.length vc, .slice eo s.done.length ec, .slice go s.got.length gc] 32)).alloc (.cells #[.string ⟨#[]⟩, .slice none 0 0, .slice none 0 0, .slice none 0 0] 32) = w1 at *
  obtain ⟨B, hB⟩ : ∃ B, B = w.heap.size := ⟨_, rfl⟩
  rw [← hB] at x1 x2 ⊢
  have HB : Hid (B = w.heap.size) := hB
  clear hB
  obtain ⟨⟨z0, z1, z2, z3⟩, _⟩ := four_cell x1
  have X1 : Hid _ := x1
  have X2 : Hid _ := x2
  have Z1 := fun W (q : Kept (fun _ => True) w1 W) => (kept_cell q (lt_of_block x1) trivial).trans z1
  have Z2 := fun W (q : Kept (fun _ => True) w1 W) => (kept_cell q (lt_of_block x1) trivial).trans z2
  have Z3 := fun W (q : Kept (fun _ => True) w1 W) => (kept_cell q (lt_of_block x1) trivial).trans z3
  have ZF := fun W (q : Kept (fun _ => True) w1 W) (o : Nat) => (kept_frozen (o := o) q (lt_of_block x1) trivial)
  clear x1 x2
  have kd : Kept (fun _ => True) w1 w1.drew := (Kept.refl _ _).drew
  refine Gz.begin (fun W => Kept (fun _ => True) w1 W) (fun i => decide (10 ≤ i)) (by kernel_rfl) ?_
  refine Gz.take (i := 0) (oi := { dst := some 3, op := Op.fieldAddr 32 (Operand.tmp 1) 1, type := 0, pos := _, after := #[], guard := none }) (v := ?_) rfl (by kernel_rfl) (by kernel_rfl) (by kernel_rfl) (by kernel_rfl) (fun _ _ _ h => h) (Or.inl ⟨by rfl, ?hy0⟩) kd ?_
  case hy0 => (intro W hSw; (try dsimp only at hSw); go_simp; try with_reducible rfl)
  try simp only [Act.put, List.setIfInBounds_toArray, List.set_cons_zero, List.set_cons_succ]
  refine Gz.take (i := 1) (oi := { dst := some 4, op := Op.load 29 (Operand.tmp 3), type := 29, pos := _, after := #[{ on := 0, ground := Ground.data }], guard := none }) (v := ?_) rfl (by kernel_rfl) (by kernel_rfl) (by kernel_rfl) (by kernel_rfl) (fun _ _ _ h => h) (Or.inl ⟨by rfl, ?hy1⟩) kd ?_
  case hy1 => (intro W hSw; (try dsimp only at hSw); go_simp; try with_reducible rfl)
  try simp only [Act.put, List.setIfInBounds_toArray, List.set_cons_zero, List.set_cons_succ]
  refine Gz.take (i := 3) (oi := { dst := some 6, op := Op.fieldAddr 32 (Operand.tmp 1) 2, type := 0, pos := _, after := #[], guard := none }) (v := ?_) rfl (by kernel_rfl) (by kernel_rfl) (by kernel_rfl) (by kernel_rfl) (fun _ _ _ h => h) (Or.inl ⟨by rfl, ?hy3⟩) kd ?_
  case hy3 => (intro W hSw; (try dsimp only at hSw); go_simp; try with_reducible rfl)
  try simp only [Act.put, List.setIfInBounds_toArray, List.set_cons_zero, List.set_cons_succ]
  refine Gz.take (i := 4) (oi := { dst := some 7, op := Op.load 30 (Operand.tmp 6), type := 30, pos := _, after := #[{ on := 3, ground := Ground.data }], guard := none }) (v := ?_) rfl (by kernel_rfl) (by kernel_rfl) (by kernel_rfl) (by kernel_rfl) (fun _ _ _ h => h) (Or.inl ⟨by rfl, ?hy4⟩) kd ?_
  case hy4 => (intro W hSw; (try dsimp only at hSw); go_simp; try with_reducible rfl)
  try simp only [Act.put, List.setIfInBounds_toArray, List.set_cons_zero, List.set_cons_succ]
  refine Gz.take (i := 6) (oi := { dst := some 9, op := Op.fieldAddr 32 (Operand.tmp 1) 3, type := 0, pos := _, after := #[], guard := none }) (v := ?_) rfl (by kernel_rfl) (by kernel_rfl) (by kernel_rfl) (by kernel_rfl) (fun _ _ _ h => h) (Or.inl ⟨by rfl, ?hy6⟩) kd ?_
  case hy6 => (intro W hSw; (try dsimp only at hSw); go_simp; try with_reducible rfl)
  try simp only [Act.put, List.setIfInBounds_toArray, List.set_cons_zero, List.set_cons_succ]
  refine Gz.take (i := 7) (oi := { dst := some 10, op := Op.load 30 (Operand.tmp 9), type := 30, pos := _, after := #[{ on := 6, ground := Ground.data }], guard := none }) (v := ?_) rfl (by kernel_rfl) (by kernel_rfl) (by kernel_rfl) (by kernel_rfl) (fun _ _ _ h => h) (Or.inl ⟨by rfl, ?hy7⟩) kd ?_
  case hy7 => (intro W hSw; (try dsimp only at hSw); go_simp; try with_reducible rfl)
  try simp only [Act.put, List.setIfInBounds_toArray, List.set_cons_zero, List.set_cons_succ]
  refine Gz.one (i := 2) (o := { dst := some 5, op := Op.call { callee := Callee.value (Operand.func 27), args := #[Operand.tmp 4], argTypes := #[29] }, type := 29, pos := _, after := #[{ on := 1, ground := Ground.data }], guard := none }) (by kernel_rfl) rfl (fun K hK => ?_)
  go_simp
  refine Calls.mono (clone_nums (HV.out.all (K0.out.trans kd)) (iv_one _) (by rw [iv_len]; exact HF.out.vals)) ?_
  rintro e v5 ⟨na, rfl, ha, m5⟩
  rw [iv_len] at ha
  obtain ⟨p1, p2, rfl⟩ := own_shape_any ha
  have p5 : Kept (fun _ => True) w1 v5 := Kept.trans kd m5
  have HA : Hid _ := ha
  clear m5 ha
  try go_wp2_with fail
  refine hK.out _ _ (fun hEarly => p5) ?_
  clear hK K
  try simp only [Act.put, List.setIfInBounds_toArray, List.set_cons_zero, List.set_cons_succ]
  refine Gz.take (i := 9) (oi := { dst := some 12, op := Op.fieldAddr 32 (Operand.tmp 1) 1, type := 0, pos := _, after := #[{ on := 0, ground := Ground.phase }, { on := 1, ground := Ground.phase }, { on := 2, ground := Ground.phase }, { on := 3, ground := Ground.phase }, { on := 4, ground := Ground.phase }, { on := 5, ground := Ground.textOnly Departure.lateStoresUnsure }, { on := 6, ground := Ground.phase }, { on := 7, ground := Ground.phase }, { on := 8, ground := Ground.textOnly Departure.lateStoresUnsure }], guard := none }) (v := ?_) rfl (by kernel_rfl) (by kernel_rfl) (by kernel_rfl) (by kernel_rfl) (fun _ _ _ h => h) (Or.inl ⟨by rfl, ?hy9⟩) p5 ?_
  case hy9 => (intro W hSw; (try dsimp only at hSw); go_simp; try with_reducible rfl)
  try simp only [Act.put, List.setIfInBounds_toArray, List.set_cons_zero, List.set_cons_succ]
  refine Gz.one (i := 5) (o := { dst := some 8, op := Op.call { callee := Callee.value (Operand.func 28), args := #[Operand.tmp 7], argTypes := #[30] }, type := 30, pos := _, after := #[{ on := 4, ground := Ground.data }, { on := 2, ground := Ground.chain }], guard := none }) (by kernel_rfl) rfl (fun K hK => ?_)
  go_simp
  refine Calls.mono (clone_truths (HE.out.all (K0.out.trans p5)) (bv_one _) (by rw [bv_len]; exact HF.out.done)) ?_
  rintro e v6 ⟨nb, rfl, hb, m6⟩
  rw [bv_len] at hb
  obtain ⟨p3, p4, rfl⟩ := own_shape_any hb
  have p6 : Kept (fun _ => True) w1 v6 := Kept.trans p5 m6
  have HA2 : Hid _ := own_keep HA.out m6 (fun _ _ => trivial)
  have HBn : Hid _ := hb
  have L6 : Hid (w1.heap.size ≤ v5.heap.size) := p5.size
  clear m6 hb
  try go_wp2_with fail
  refine hK.out _ _ (fun hEarly => p6) ?_
  clear hK K
  try simp only [Act.put, List.setIfInBounds_toArray, List.set_cons_zero, List.set_cons_succ]
  refine Gz.one (i := 8) (o := { dst := some 11, op := Op.call { callee := Callee.value (Operand.func 28), args := #[Operand.tmp 10], argTypes := #[30] }, type := 30, pos := _, after := #[{ on := 7, ground := Ground.data }, { on := 5, ground := Ground.chain }], guard := none }) (by kernel_rfl) rfl (fun K hK => ?_)
  go_simp
  refine Calls.mono (clone_truths (HG.out.all (K0.out.trans p6)) (bv_one _) (by rw [bv_len]; exact HF.out.got)) ?_
  rintro e v7 ⟨nc, rfl, hc, m7⟩
  rw [bv_len] at hc
  obtain ⟨p8, p9, rfl⟩ := own_shape_any hc
  have p7 : Kept (fun _ => True) w1 v7 := Kept.trans p6 m7
  have HA3 : Hid _ := own_keep HA2.out m7 (fun _ _ => trivial)
  have HBn2 : Hid _ := own_keep HBn.out m7 (fun _ _ => trivial)
  have HCn : Hid _ := hc
  have L7 : Hid (w1.heap.size ≤ v6.heap.size) := p6.size
  have L8 : Hid (∀ k, (Value.slice p3 s.done.length p4).ownBlock = some k → k < v6.heap.size) := fun k e => (World.ownsRow.lt HBn.out k e).2
  clear m7 hc
  try go_wp2_with fail
  refine hK.out _ _ (fun hEarly => p7) ?_
  clear hK K
  try simp only [Act.put, List.setIfInBounds_toArray, List.set_cons_zero, List.set_cons_succ]
  have hb7 := (p7.block B (lt_of_block X1.out) trivial).trans X1.out
  obtain ⟨⟨y0, y1, y2, y3⟩, f1, f2, f3⟩ := four_cell hb7
  have HB7 : Hid _ := hb7
  have P7 : Hid (Kept (fun _ => True) w1 v7) := p7
  clear z0 z1 z2 z3 Z1 Z2 Z3 ZF kd p5 p6 p7 hb7
  refine Gz.one (i := 10) (o := { dst := none, op := Op.store 29 (Operand.tmp 12) (Operand.tmp 5), type := 0, pos := _, after := #[{ on := 9, ground := Ground.data }, { on := 2, ground := Ground.data }, { on := 8, ground := Ground.chain }, { on := 0, ground := Ground.phase }, { on := 1, ground := Ground.phase }, { on := 2, ground := Ground.phase }, { on := 3, ground := Ground.phase }, { on := 4, ground := Ground.phase }, { on := 5, ground := Ground.textOnly Departure.lateStoresUnsure }, { on := 6, ground := Ground.phase }, { on := 7, ground := Ground.phase }, { on := 8, ground := Ground.textOnly Departure.lateStoresUnsure }], guard := none }) (by kernel_rfl) rfl (fun K hK => ?_)
  go_simp
  refine hK.out _ _ (fun hEarly => by cases hEarly) ?_
  clear hK K
  try simp only [Act.put, List.setIfInBounds_toArray, List.set_cons_zero, List.set_cons_succ]
  refine Gz.one (i := 11) (o := { dst := some 13, op := Op.fieldAddr 32 (Operand.tmp 1) 2, type := 0, pos := _, after := #[{ on := 0, ground := Ground.phase }, { on := 1, ground := Ground.phase }, { on := 2, ground := Ground.phase }, { on := 3, ground := Ground.phase }, { on := 4, ground := Ground.phase }, { on := 5, ground := Ground.phase }, { on := 6, ground := Ground.phase }, { on := 7, ground := Ground.phase }, { on := 8, ground := Ground.textOnly Departure.lateStoresUnsure }, { on := 9, ground := Ground.phase }, { on := 10, ground := Ground.phase }], guard := none }) (by kernel_rfl) rfl (fun K hK => ?_)
  go_simp
  refine hK.out _ _ (fun hEarly => by cases hEarly) ?_
  clear hK K
  try simp only [Act.put, List.setIfInBounds_toArray, List.set_cons_zero, List.set_cons_succ]
  refine Gz.one (i := 12) (o := { dst := none, op := Op.store 30 (Operand.tmp 13) (Operand.tmp 8), type := 0, pos := _, after := #[{ on := 11, ground := Ground.data }, { on := 5, ground := Ground.data }, { on := 10, ground := Ground.chain }, { on := 0, ground := Ground.phase }, { on := 1, ground := Ground.phase }, { on := 2, ground := Ground.phase }, { on := 3, ground := Ground.phase }, { on := 4, ground := Ground.phase }, { on := 5, ground := Ground.phase }, { on := 6, ground := Ground.phase }, { on := 7, ground := Ground.phase }, { on := 8, ground := Ground.textOnly Departure.lateStoresUnsure }, { on := 9, ground := Ground.phase }, { on := 10, ground := Ground.phase }], guard := none }) (by kernel_rfl) rfl (fun K hK => ?_)
  go_simp
  refine hK.out _ _ (fun hEarly => by cases hEarly) ?_
  clear hK K
  try simp only [Act.put, List.setIfInBounds_toArray, List.set_cons_zero, List.set_cons_succ]
  refine Gz.one (i := 13) (o := { dst := some 14, op := Op.fieldAddr 32 (Operand.tmp 1) 3, type := 0, pos := _, after := #[{ on := 0, ground := Ground.phase }, { on := 1, ground := Ground.phase }, { on := 2, ground := Ground.phase }, { on := 3, ground := Ground.phase }, { on := 4, ground := Ground.phase }, { on := 5, ground := Ground.phase }, { on := 6, ground := Ground.phase }, { on := 7, ground := Ground.phase }, { on := 8, ground := Ground.phase }, { on := 9, ground := Ground.phase }, { on := 10, ground := Ground.phase }, { on := 11, ground := Ground.phase }, { on := 12, ground := Ground.phase }], guard := none }) (by kernel_rfl) rfl (fun K hK => ?_)
  go_simp
  refine hK.out _ _ (fun hEarly => by cases hEarly) ?_
  clear hK K
  try simp only [Act.put, List.setIfInBounds_toArray, List.set_cons_zero, List.set_cons_succ]
  refine Gz.one (i := 14) (o := { dst := none, op := Op.store 30 (Operand.tmp 14) (Operand.tmp 11), type := 0, pos := _, after := #[{ on := 13, ground := Ground.data }, { on := 8, ground := Ground.data }, { on := 12, ground := Ground.chain }, { on := 0, ground := Ground.phase }, { on := 1, ground := Ground.phase }, { on := 2, ground := Ground.phase }, { on := 3, ground := Ground.phase }, { on := 4, ground := Ground.phase }, { on := 5, ground := Ground.phase }, { on := 6, ground := Ground.phase }, { on := 7, ground := Ground.phase }, { on := 8, ground := Ground.phase }, { on := 9, ground := Ground.phase }, { on := 10, ground := Ground.phase }, { on := 11, ground := Ground.phase }, { on := 12, ground := Ground.phase }], guard := none }) (by kernel_rfl) rfl (fun K hK => ?_)
  go_simp
  refine hK.out _ _ (fun hEarly => by cases hEarly) ?_
  clear hK K
  try simp only [Act.put, List.setIfInBounds_toArray, List.set_cons_zero, List.set_cons_succ]
  refine Gz.done (by kernel_rfl) ?_ _
  have hb := box_three HB7.out (.slice p1 s.vals.length p2) (.slice p3 s.done.length p4) (.slice p8 s.got.length p9)
  have hr := ((((Kept.refl (· ≠ B) v7).setCell (ad := ⟨B, 1, none⟩) (by simp) (.slice p1 s.vals.length p2)).setCell (ad := ⟨B, 2, none⟩) (by simp) (.slice p3 s.done.length p4)).setCell (ad := ⟨B, 3, none⟩) (by simp) (.slice p8 s.got.length p9)).block (B + 1) (by have := P7.out.size; have := lt_of_block X2.out; omega) (by omega)
  have hr2 := (hr.trans (P7.out.block (B + 1) (lt_of_block X2.out) trivial)).trans X2.out
  have kf : Kept (fun i => i ≠ B ∧ i ≠ B + 1) v7 (((v7.setCell ⟨B, 1, none⟩ (.slice p1 s.vals.length p2)).setCell ⟨B, 2, none⟩ (.slice p3 s.done.length p4)).setCell ⟨B, 3, none⟩ (.slice p8 s.got.length p9)) := (((Kept.refl _ v7).setCell (by simp) _).setCell (by simp) _).setCell (by simp) _
  have KF : Hid _ := kf
  have HR2 : Hid _ := hr2
  clear y0 y1 y2 y3 hr hr2 kf
  generalize ((v7.setCell ⟨B, 1, none⟩ (.slice p1 s.vals.length p2)).setCell ⟨B, 2, none⟩ (.slice p3 s.done.length p4)).setCell ⟨B, 3, none⟩ (.slice p8 s.got.length p9) = w8 at *
  obtain ⟨⟨z0, z1, z2, z3⟩, _⟩ := four_cell hb
  obtain ⟨⟨r0, r1, r2, r3⟩, _⟩ := four_cell HR2.out
  clear hb
  go_wp2_with fail
  obtain ⟨q1, q2⟩ := copied_end HB.out K0.out P7.out (lt_of_block X2.out) ((((KF.out.setCell (ad := ⟨B + 1, 0, none⟩) (by simp) (.string ⟨s.type.toArray⟩)).setCell (ad := ⟨B + 1, 1, none⟩) (by simp) (.slice p1 s.vals.length p2)).setCell (ad := ⟨B + 1, 2, none⟩) (by simp) (.slice p3 s.done.length p4)).setCell (ad := ⟨B + 1, 3, none⟩) (by simp) (.slice p8 s.got.length p9)) HA3.out HBn2.out HCn.out (Nat.le_refl _) L6.out L7.out L8.out
  refine bodyPost_ret (results_state rfl _ _ rfl (set_cell (set_cell (set_cell (set_cell HR2.out 0 _) 1 _) 2 _) 3 _) rfl) rfl ?_
  exact ⟨_, _, _, rfl, q1, q2⟩

end Go.Proofs.YtnddpalngjmhnabDoor

namespace Go.Proofs.YtnddpalngjmhnabDoor
open Go.RowKit

theorem own_nums {w : World} {g n base : Nat} (h : w.heap[g]? = some (.cells (madeCells #[.int .i64 0] n) 3 (0, 0))) (hb : base ≤ g) (hn : n ≤ 1000000) : w.ownsRow base 3 1 (.slice (some ⟨g, 0, none⟩) n n) n (iv (List.replicate n 0)) := by
  refine ⟨by simp [iv], .inr ⟨g, n, _, rfl, hb, h, Nat.le_refl _, by unfold maxLen; omega, by simp [madeCells], ?_⟩⟩
  rw [toList_madeCells_one]
  simp [iv]
theorem own_truths {w : World} {g n base : Nat} (h : w.heap[g]? = some (.cells (madeCells #[.bool false] n) 4 (0, 0))) (hb : base ≤ g) (hn : n ≤ 1000000) : w.ownsRow base 4 1 (.slice (some ⟨g, 0, none⟩) n n) n (bv (List.replicate n false)) := by
  refine ⟨by simp [bv], .inr ⟨g, n, _, rfl, hb, h, Nat.le_refl _, by unfold maxLen; omega, by simp [madeCells], ?_⟩⟩
  rw [toList_madeCells_one]
  simp [bv]

theorem iv_at (xs : List Int) (i : Nat) (h : i < xs.length) : (iv xs)[i]? = some (.int .i64 xs[i]) := by simp [iv, h]
theorem alloc_quad (w : World) (a b c d : Obj) : let W := ((((w.alloc a).alloc b).alloc c).alloc d).drew; W.heap[w.heap.size]? = some a ∧ W.heap[w.heap.size + 1]? = some b ∧ W.heap[w.heap.size + 1 + 1]? = some c ∧ W.heap[w.heap.size + 1 + 1 + 1]? = some d := by
  obtain ⟨h1, h2, h3⟩ := alloc_three w a b c
  have e : (((w.alloc a).alloc b).alloc c).heap.size = w.heap.size + 1 + 1 + 1 := by simp
  refine ⟨?_, ?_, ?_, ?_⟩
  · show ((((w.alloc a).alloc b).alloc c).alloc d).heap[w.heap.size]? = some a
    rw [heap_alloc_old _ _ (by omega)]; exact h1
  · show ((((w.alloc a).alloc b).alloc c).alloc d).heap[w.heap.size + 1]? = some b
    rw [heap_alloc_old _ _ (by omega)]; exact h2
  · show ((((w.alloc a).alloc b).alloc c).alloc d).heap[w.heap.size + 1 + 1]? = some c
    rw [heap_alloc_old _ _ (by omega)]; exact h3
  · show ((((w.alloc a).alloc b).alloc c).alloc d).heap[w.heap.size + 1 + 1 + 1]? = some d
    rw [← e]; exact heap_alloc_new _ d
/-- A new state's box, and its three rows. -/
structure Nw (w wx : World) (t : Ty) (D ga gs gm : Nat) : Prop where
  box : wx.heap[D]? = some (.cells #[.string ⟨t.name.toArray⟩, .slice (some ⟨ga, 0, none⟩) t.attrs.length t.attrs.length, .slice (some ⟨gs, 0, none⟩) t.stages.length t.stages.length, .slice (some ⟨gm, 0, none⟩) t.marks.length t.marks.length] 32 (0, 0))
  vals : wx.heap[ga]? = some (.cells (madeCells #[.int .i64 0] t.attrs.length) 3 (0, 0))
  done : wx.heap[gs]? = some (.cells (madeCells #[.bool false] t.stages.length) 4 (0, 0))
  got : wx.heap[gm]? = some (.cells (madeCells #[.bool false] t.marks.length) 4 (0, 0))
  low : w.heap.size ≤ D ∧ w.heap.size ≤ ga ∧ w.heap.size ≤ gs ∧ w.heap.size ≤ gm
  apart : gs ≠ gm ∧ D ≠ ga ∧ D ≠ gs ∧ D ≠ gm
  kept : Kept (fun _ => True) w wx
/-- While the starts are laid. -/
structure Nb (w wx : World) (t : Ty) (D ga gs gm : Nat) (i : Nat) : Prop where
  box : wx.heap[D]? = some (.cells #[.string ⟨t.name.toArray⟩, .slice (some ⟨ga, 0, none⟩) t.attrs.length t.attrs.length, .slice (some ⟨gs, 0, none⟩) t.stages.length t.stages.length, .slice (some ⟨gm, 0, none⟩) t.marks.length t.marks.length] 32 (0, 0))
  so : So wx w.heap.size (.slice (some ⟨ga, 0, none⟩) t.attrs.length t.attrs.length) (.slice (some ⟨gs, 0, none⟩) t.stages.length t.stages.length) (.slice (some ⟨gm, 0, none⟩) t.marks.length t.marks.length) { rawP t with vals := (t.attrs.take i).map At.start ++ List.replicate (t.attrs.length - i) 0 }
  low : w.heap.size ≤ D ∧ w.heap.size ≤ ga ∧ D ≠ ga
  kept : Kept (fun _ => True) w wx
theorem Nw.begin {w wx : World} {t : Ty} {D ga gs gm : Nat} (h : Nw w wx t D ga gs gm) (g : Good t) : Nb w wx t D ga gs gm 0 := by
  have := g.na; have := g.ns; have := g.nm
  refine ⟨h.box, ⟨?_, ?_, ?_, fun k e q => ?_⟩, ⟨h.low.1, h.low.2.1, h.apart.2.1⟩, h.kept⟩
  · have := own_nums h.vals h.low.2.1 (by omega)
    simpa using this
  · have := own_truths h.done h.low.2.2.1 (by omega)
    simpa [rawP] using this
  · have := own_truths h.got h.low.2.2.2 (by omega)
    simpa [rawP] using this
  · simp only [Value.ownBlock, Option.some.injEq] at e q
    exact h.apart.1 (e.trans q.symm)
theorem start_step (l : List At) (i : Nat) (h : i < l.length) : ((l.take i).map At.start ++ List.replicate (l.length - i) (0 : Int)).set i (l[i]).start = (l.take (i + 1)).map At.start ++ List.replicate (l.length - (i + 1)) 0 := by
  apply List.ext_getElem?
  intro k
  rw [List.getElem?_set]
  have e1 : ((l.take i).map At.start).length = i := by simp; omega
  have e2 : ((l.take (i + 1)).map At.start).length = i + 1 := by simp; omega
  by_cases hk : i = k
  · subst hk
    rw [if_pos rfl, if_pos (by simp; omega), List.getElem?_append_left (by omega)]
    simp [h]
  · rw [if_neg hk]
    rcases Nat.lt_or_ge k i with h1 | h1
    · rw [List.getElem?_append_left (by omega), List.getElem?_append_left (by omega)]
      simp [h1, show k < i + 1 by omega]
    · rw [List.getElem?_append_right (by omega), List.getElem?_append_right (by omega), e1, e2]
      simp only [List.getElem?_replicate]
      by_cases h2 : k < l.length
      · rw [if_pos (by omega), if_pos (by omega)]
      · rw [if_neg (by omega), if_neg (by omega)]
theorem Nb.put {w wx : World} {t : Ty} {D ga gs gm i : Nat} (h : Nb w wx t D ga gs gm i) (hi : i < t.attrs.length) : Nb w (wx.setCell ⟨ga, i, none⟩ (.int .i64 (t.attrs[i]).start)) t D ga gs gm (i + 1) := by
  have hl : t.attrs.length = ({ rawP t with vals := (t.attrs.take i).map At.start ++ List.replicate (t.attrs.length - i) 0 } : Sa).vals.length := by simp; omega
  have h2 := (h.so.setVal hl i (t.attrs[i]).start).1
  refine ⟨?_, ?_, h.low, h.kept.setNew h.low.2.1 _⟩
  · have k : Kept (· ≠ ga) wx (wx.setCell ⟨ga, i, none⟩ (.int .i64 (t.attrs[i]).start)) := (Kept.refl _ _).setCell (by simp) _
    exact (k.block D (lt_of_block h.box) h.low.2.2).trans h.box
  · simpa only [start_step t.attrs i hi] using h2
theorem Nb.all {w wx wy : World} {t : Ty} {D ga gs gm i : Nat} (h : Nb w wx t D ga gs gm i) (k : Kept (fun _ => True) wx wy) : Nb w wy t D ga gs gm i :=
  ⟨(k.block D (lt_of_block h.box) trivial).trans h.box, h.so.all k, h.low, h.kept.trans k⟩

set_option maxRecDepth 100000 in
set_option maxHeartbeats 8000000 in
theorem new_any {w : World} {tv : Value} {t : Ty} (ht : TyV w tv t) (g : Good t) :
    Calls Tryd.prog 5 #[tv] w fun e w' => ∃ v, e = .returned v ∧ StO w' w.heap.size v (newP t) ∧ Kept (fun _ => True) w w' := by
  have HTy : Hid (TyV w tv t) := ht
  obtain ⟨ta, ts, tm, rfl, ha, hss, hkk⟩ := ht
  obtain ⟨ao, ac, rfl, la⟩ := ha.form
  obtain ⟨so, sc, rfl, ls⟩ := hss.form
  obtain ⟨mo, mc, rfl, lm⟩ := hkk.form
  obtain ⟨x1, x2⟩ := alloc_two w (.cells #[.string ⟨t.name.toArray⟩, .slice ao t.attrs.length ac, .slice so t.stages.length sc, .slice mo t.marks.length mc] 26) (.cells #[.string ⟨#[]⟩, .slice none 0 0, .slice none 0 0, .slice none 0 0] 32)
  have hk1 : Kept (fun _ => True) w ((w.alloc (.cells #[.string ⟨t.name.toArray⟩, .slice ao t.attrs.length ac, .slice so t.stages.length sc, .slice mo t.marks.length mc] 26)).alloc (.cells #[.string ⟨#[]⟩, .slice none 0 0, .slice none 0 0, .slice none 0 0] 32)) := ((Kept.refl _ _).alloc _).alloc _
  have cs := small_any (HTy.out.all hk1) g
  obtain ⟨⟨y0, y1, y2, y3⟩, _⟩ := four_cell x1
  have X1 : Hid _ := x1
  have X2 : Hid _ := x2
  have K1 : Hid _ := hk1
  have HGd : Hid (Good t) := g
  have hna := g.na
  have hns := g.ns
  have hnm := g.nm
  clear ha hss hkk x1 x2 hk1 g
  go_enter Tryd.func5, Tryd.ntmps5
  go_wp2_with fail
  refine Calls.mono cs ?_
  rintro e w2 ⟨rfl, k2⟩
  have hB1 := (k2.block _ (lt_of_block X1.out) trivial).trans X1.out
  have hB2 := (k2.block _ (lt_of_block X2.out) trivial).trans X2.out
  have K2 : Hid (Kept (fun _ => True) w w2) := K1.out.trans k2
  have HX1 : Hid _ := hB1
  have HX2 : Hid _ := hB2
  clear cs y0 y1 y2 y3 k2 X1 X2 K1
  obtain ⟨B, hB⟩ : ∃ B, B = w.heap.size := ⟨_, rfl⟩
  have HB : Hid (B = w.heap.size) := hB
  rw [← hB] at HX1 HX2 hB1 hB2 ⊢
  clear hB
  go_upto_region 3 with fail
  have kd : Kept (fun _ => True) w2 w2.drew := (Kept.refl _ _).drew
  obtain ⟨⟨y0, y1, y2, y3⟩, _⟩ := four_cell hB1
  have Y0 := fun W (q : Kept (fun _ => True) w2 W) => (kept_cell q (lt_of_block hB1) trivial).trans y0
  have Y1 := fun W (q : Kept (fun _ => True) w2 W) => (kept_cell q (lt_of_block hB1) trivial).trans y1
  have Y2 := fun W (q : Kept (fun _ => True) w2 W) => (kept_cell q (lt_of_block hB1) trivial).trans y2
  have Y3 := fun W (q : Kept (fun _ => True) w2 W) => (kept_cell q (lt_of_block hB1) trivial).trans y3
  have mA := make_nums t.attrs.length (by omega)
  have mS := make_truths t.stages.length (by omega)
  have mM := make_truths t.marks.length (by omega)
  clear y0 y1 y2 y3 hB1 hB2
  go_cut [3] from 10 to 24 (fun t3 wx => ∃ D ga gs gm : Nat, t3 = .pointer (some ⟨D, 0, none⟩) ∧ Nw w2 wx t D ga gs gm)
  case first =>
    go_region_held3 (fun W => Kept (fun _ => True) w2 W) (first | assumption | (repeat (first | exact Kept.refl _ _ | refine Kept.drew ?_ | refine Kept.alloc ?_ _))) (fail)
    all_goals
      go_wp2_with fail
      go_meet
      exact ⟨_, _, _, _, rfl, ⟨(by first | exact (alloc_quad _ _ _ _ _).1 | exact (alloc_quad _ _ _ _ _).2.1 | exact (alloc_quad _ _ _ _ _).2.2.1 | exact (alloc_quad _ _ _ _ _).2.2.2), (by first | exact (alloc_quad _ _ _ _ _).1 | exact (alloc_quad _ _ _ _ _).2.1 | exact (alloc_quad _ _ _ _ _).2.2.1 | exact (alloc_quad _ _ _ _ _).2.2.2), (by first | exact (alloc_quad _ _ _ _ _).1 | exact (alloc_quad _ _ _ _ _).2.1 | exact (alloc_quad _ _ _ _ _).2.2.1 | exact (alloc_quad _ _ _ _ _).2.2.2), (by first | exact (alloc_quad _ _ _ _ _).1 | exact (alloc_quad _ _ _ _ _).2.1 | exact (alloc_quad _ _ _ _ _).2.2.1 | exact (alloc_quad _ _ _ _ _).2.2.2), ⟨by omega, by omega, by omega, by omega⟩, ⟨by omega, by omega, by omega, by omega⟩, (((((Kept.refl _ _).alloc _).alloc _).alloc _).alloc _).drew⟩⟩
  case rest =>
  obtain ⟨D, ga, gs, gm, rfl, hnw⟩ := hcut
  have hnb := hnw.begin HGd.out
  have HNb : Hid (Nb w2 wc t D ga gs gm 0) := hnb
  have hB1 := (hnb.kept.block _ (lt_of_block HX1.out) trivial).trans HX1.out
  obtain ⟨⟨y0, y1, y2, y3⟩, _⟩ := four_cell hB1
  clear hnw hnb hB1 Y0 Y1 Y2 Y3 mA mS mM kd
  have HAt : Hid (Av w2 (.slice ao t.attrs.length ac) t.attrs) := by
    obtain ⟨va', _, _, e4, hA', _, _⟩ := HTy.out.all K2.out
    cases e4
    exact hA'
  go_wp2_with fail
  clear y0 y1 y2 y3
  go_loopw [4, 5, 28] (fun _ _ ti wr => ∃ i : Nat, i ≤ t.attrs.length ∧ ti = .int .i64 i ∧ Nb w2 wr t D ga gs gm i) (fun _ _ ti _ => t.attrs.length - (intOf ti).toNat)
  case atStart => exact ⟨0, Nat.zero_le _, rfl, HNb.out⟩
  case round =>
  obtain ⟨i, hi, rfl, hnb⟩ := hrel
  have HN2 : Hid (Nb w2 wr t D ga gs gm i) := hnb
  by_cases hlt : i < t.attrs.length
  · obtain ⟨b, off, rfl, hb, q0, q1, q2, q3⟩ := (HAt.out.all hnb.kept).at i hlt
    have i1 : (i : Int) < (t.attrs.length : Int) := by omega
    have i0 : (0 : Int) ≤ (i : Int) := by omega
    have ka : Kept (fun _ => True) wr (wr.alloc (.cells #[.string ⟨(t.attrs[i]).name.toArray⟩, .int .i64 (t.attrs[i]).start, .int .i64 (t.attrs[i]).lo, .int .i64 (t.attrs[i]).hi] 48)) := (Kept.refl _ _).alloc _
    have hn3 := hnb.all ka
    obtain ⟨⟨z0, z1, z2, z3⟩, _⟩ := four_cell hn3.box
    have hvl : ({ rawP t with vals := (t.attrs.take i).map At.start ++ List.replicate (t.attrs.length - i) 0 } : Sa).vals.length = t.attrs.length := by simp; omega
    have hrow := hn3.so.vals
    rw [hvl] at hrow
    have hc := hrow.cellAt i (by omega)
    obtain ⟨old, ho⟩ : ∃ old : Int, (iv ((t.attrs.take i).map At.start ++ List.replicate (t.attrs.length - i) 0))[i]? = some (.int .i64 old) := by
      exact ⟨_, iv_at _ i (by simp; omega)⟩
    rw [show (iv ({ rawP t with vals := (t.attrs.take i).map At.start ++ List.replicate (t.attrs.length - i) 0 } : Sa).vals)[i]? = some (.int .i64 old) from ho] at hc
    have hf := hrow.frozenAt i
    have HN4 : Hid _ := hn3.put hlt
    clear hnb hn3 hrow hvl ho ka hb
    generalize t.attrs[i] = x at *
    go_wp2_with fail
    go_roundw
    case rel => exact ⟨i + 1, by omega, by go_num, HN4.out⟩
    case measure => simp [intOf]; omega
  · have i1 : ¬ (i : Int) < (t.attrs.length : Int) := by omega
    have hraw : ({ rawP t with vals := (t.attrs.take i).map At.start ++ List.replicate (t.attrs.length - i) 0 } : Sa) = rawP t := by
      rw [List.take_of_length_le (by omega), show t.attrs.length - i = 0 by omega]
      simp [rawP]
    have hso := hnb.so
    rw [hraw] at hso
    have hB1 := (hnb.kept.block _ (lt_of_block HX1.out) trivial).trans HX1.out
    obtain ⟨⟨y0, y1, y2, y3⟩, _⟩ := four_cell hB1
    obtain ⟨⟨z0, z1, z2, z3⟩, _⟩ := four_cell hnb.box
    have cst := settle_any (HTy.out.all K2.out) (hnb.kept.mono fun _ _ _ => trivial) hso HGd.out (Fit.raw HGd.out).sz
    have hgm : D ≠ gm := fun e => by
      have h1 := hnb.box
      have h2 := hso.got
      rcases h2.2 with ⟨q, _⟩ | ⟨g', c', cur, q, _, hg', _⟩
      · cases (Value.slice.inj q).1
      · cases (Value.slice.inj q).1
        rw [← e, h1] at hg'
        simp at hg'
    have HGM : Hid _ := hgm
    have HSo : Hid _ := hso
    clear hnb hraw hso hB1 hgm
    have e1 : (rawP t).type = t.name := rfl
    rw [e1] at cst
    go_wp2_with fail
    refine Calls.mono cst ?_
    rintro e w5 ⟨rfl, hs5, k5⟩
    have hbx := (k5.block D (lt_of_block HN2.out.box) (by simp only [Value.ownBlock, ne_eq, Option.some.injEq]; exact Ne.symm HGM.out)).trans HN2.out.box
    have klow := HSo.out.lowG k5
    have hrs := ((klow.block (B + 1) (by have := lt_of_block HX2.out; have := HN2.out.kept.size; omega) (lt_of_block HX2.out)).trans (HN2.out.kept.block (B + 1) (lt_of_block HX2.out) trivial)).trans HX2.out
    obtain ⟨⟨x0, x1, x2, x3⟩, _⟩ := four_cell hbx
    obtain ⟨⟨r0, r1, r2, r3⟩, _⟩ := four_cell hrs
    have HRS : Hid _ := hrs
    have HS5 : Hid _ := hs5
    have K5 : Hid (Kept (· < w2.heap.size) w2 w5) := (HN2.out.kept.mono fun _ _ _ => trivial).trans klow
    clear cst y0 y1 y2 y3 z0 z1 z2 z3 hbx hrs hs5 k5 klow
    go_wp2_with fail
    have kz : Kept (fun i => i ≠ B + 1) w5 ((((w5.setCell ⟨B + 1, 0, none⟩ (.string ⟨t.name.toArray⟩)).setCell ⟨B + 1, 1, none⟩ (.slice (some ⟨ga, 0, none⟩) t.attrs.length t.attrs.length)).setCell ⟨B + 1, 2, none⟩ (.slice (some ⟨gs, 0, none⟩) t.stages.length t.stages.length)).setCell ⟨B + 1, 3, none⟩ (.slice (some ⟨gm, 0, none⟩) t.marks.length t.marks.length)) := ((((Kept.refl _ w5).setCell (by simp) _).setCell (by simp) _).setCell (by simp) _).setCell (by simp) _
    have hlt1 := lt_of_block HX2.out
    have hsz := K2.out.size
    refine bodyPost_ret (results_state rfl _ _ rfl (set_cell (set_cell (set_cell (set_cell HRS.out 0 _) 1 _) 2 _) 3 _) rfl) rfl ⟨_, rfl, ⟨.slice (some ⟨ga, 0, none⟩) t.attrs.length t.attrs.length, .slice (some ⟨gs, 0, none⟩) t.stages.length t.stages.length, .slice (some ⟨gm, 0, none⟩) t.marks.length t.marks.length, ?_, ?_⟩, ?_⟩
    · rw [show (newP t).type = t.name from (settled_grows t (rawP t)).type]
      rfl
    · have hso := HS5.out
      exact ⟨ownsRow_low (own_keep hso.vals kz (fun k e q => by have := (hso.vals.lt k e).1; omega)) hsz, ownsRow_low (own_keep hso.done kz (fun k e q => by have := (hso.done.lt k e).1; omega)) hsz, ownsRow_low (own_keep hso.got kz (fun k e q => by have := (hso.got.lt k e).1; omega)) hsz, hso.apart⟩
    · exact (K2.out.then K5.out (fun i hi _ => by show i < _; omega)).then kz (fun i hi _ => by have := HB.out; omega)

end Go.Proofs.YtnddpalngjmhnabDoor
