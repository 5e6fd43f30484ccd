/-
  Regions that draw their order, some of whose operations are late: they wait for all that is taken first, so what is held need not hold behind them.
-/
import Derived.Deep.RegionHeld
import Derived.Test.YtebpkhemkdgbjaaYS
import Derived.Deep.CutBlock
namespace Go.Proofs.Ytebpkhemkdgbjaa
open Go

section
variable {P : Program} {md : Region.Mode} {ops : Array Oper} {Q : Exit → Act → World → Prop} {S : World → Prop} {late : Nat → Bool}

/-- Whatever order is picked: behind each operation that is not late, S. -/
def Gz (P : Program) (md : Region.Mode) (ops : Array Oper) (Q : Exit → Act → World → Prop) (S : World → Prop) (late : Nat → Bool) : Nat → Array Bool → Act → World → Prop
  | 0, done, a, w => Region.ready md ops done = [] ∧ Q .normal a w
  | n + 1, done, a, w => (Region.ready md ops done = [] → Q .normal a w) ∧
      ∀ i ∈ Region.ready md ops done, wpOp P ops Q i (fun a' w' => (late i = false → S w') ∧ Gz P md ops Q S late n (done.setIfInBounds i true) a' w') a w
theorem Gz.any : ∀ (n : Nat) (done : Array Bool) (a : Act) (w : World), Gz P md ops Q S late n done a w → wpAny P md ops Q n done a w
  | 0, _, _, _, h => h
  | n + 1, _, _, _, h => ⟨h.1, fun i hi => wpOp_mono (fun a' w' q => Gz.any n _ a' w' q.2) (h.2 i hi)⟩

/-- Each late one that is still to come waits for i. -/
def waits (md : Region.Mode) (ops : Array Oper) (late : Nat → Bool) (done : Array Bool) (i : Nat) : Bool :=
  (List.range ops.size).all fun j => !(late j) || done.getD j true || (match ops[j]? with
    | none => true
    | some o => o.after.any fun e => Region.binds md e && e.on == i)
theorem waits_spec {done : Array Bool} {i : Nat} (h : waits md ops late done i = true) (j : Nat) (oj : Oper) (hj : ops[j]? = some oj) (hl : late j = true) (hd : done.getD j true = false) : ∃ e ∈ oj.after, Region.binds md e = true ∧ e.on = i := by
  have hlt : j < ops.size := by
    rcases Nat.lt_or_ge j ops.size with h | h
    · exact h
    · rw [Array.getElem?_eq_none h] at hj; cases hj
  have := List.all_eq_true.1 h j (List.mem_range.2 hlt)
  simp only [hl, hd, hj, Bool.not_true, Bool.false_or] at this
  obtain ⟨e, he, hb⟩ := Array.any_eq_true'.1 this
  simp only [Bool.and_eq_true, beq_iff_eq] at hb
  exact ⟨e, he, hb.1, hb.2⟩

theorem not_done {done : Array Bool} {i : Nat} (h0 : done.getD i true = false) (h1 : done.getD i false = true) : False := by
  rcases Nat.lt_or_ge i done.size with h | h
  · simp [h] at h0 h1
    rw [h0] at h1
    cases h1
  · simp [Array.getElem?_eq_none h] at h1
/-- An operation that may come up, and yields v in every world that meets S, may be taken first: what may come ahead of it is not late, so S holds behind that. -/
theorem Gz.first {i : Nat} {oi : Oper} {v : Value} (hi : ops[i]? = some oi) (hs : Region.noSelect ops = true) (hQ : ∀ c a w, Q (.panic c) (a.put oi.dst v) w → Q (.panic c) a w) (n : Nat) :
    ∀ (done : Array Bool) (a : Act) (w : World), (∀ j oj, ops[j]? = some oj → j ≠ i → done.getD j true = false → (∀ e ∈ oj.after, Region.binds md e = true → e.on ≠ i) → oi.apart ops oj = true) →
      (∀ j oj, ops[j]? = some oj → late j = true → done.getD j true = false → ∃ e ∈ oj.after, Region.binds md e = true ∧ e.on = i) →
      i ∈ Region.ready md ops done → YieldsIf P ops S oi v a → S w → Gz P md ops Q S late n (done.setIfInBounds i true) (a.put oi.dst v) w → Gz P md ops Q S late (n + 1) done a w := by
  have sel := Region.noSelect_spec hs
  induction n with
  | zero =>
    intro done a w _ _ hr hy hS H
    refine ⟨fun h => ?_, fun j hj => ?_⟩
    · rw [h] at hr
      cases hr
    · rcases Decidable.em (j = i) with rfl | hne
      · exact hy.wpOp hi hS ⟨fun _ => hS, H⟩
      · have := ready_mono hj hne
        rw [H.1] at this
        cases this
  | succ n ih =>
    intro done a w hfree hlate hr hy hS H
    refine ⟨fun h => ?_, fun j hj => ?_⟩
    · rw [h] at hr
      cases hr
    · rcases Decidable.em (j = i) with rfl | hne
      · exact hy.wpOp hi hS ⟨fun _ => hS, H⟩
      · have hiu := (mem_ready.1 hr).1
        obtain ⟨hju, oj, hoj, hjr⟩ := mem_ready.1 hj
        have hno : ∀ e ∈ oj.after, Region.binds md e = true → e.on ≠ i := fun e he hb q => not_done hiu (by rw [← q]; exact hjr e he hb)
        have hearly : late j = false := by
          cases hl : late j with
          | false => rfl
          | true =>
            obtain ⟨e, he, hb, q⟩ := hlate j oj hoj hl hju
            exact absurd q (hno e he hb)
        have step := wpOp_putIf hoj (hfree j oj hoj hne hju hno) (fun cs b => sel i oi cs b hi) (fun cs b => sel j oj cs b hoj) hQ hy (H.2 j (ready_mono hj hne))
        have less : ∀ k, (done.setIfInBounds j true).getD k true = false → done.getD k true = false := fun k hk => by
          rcases Decidable.em (j = k) with rfl | h
          · exact hju
          · rwa [getD_set_ne true h] at hk
        refine wpOp_mono (fun a' w' q => ⟨q.2.1, ih _ a' w' (fun k ok hk hki hun hn => hfree k ok hk hki (less k hun) hn) (fun k ok hk hl hun => hlate k ok hk hl (less k hun)) (ready_mono hr (Ne.symm hne)) q.1 (q.2.1 hearly) ?_⟩) step
        rw [Array.setIfInBounds_comm _ _ hne]
        exact q.2.2
theorem Gz.take {i : Nat} {oi : Oper} {v : Value} {n : Nat} {done : Array Bool} {a : Act} {w : World} (hi : ops[i]? = some oi) (hs : Region.noSelect ops = true) (hf : Region.free md ops done i = true) (hr : (Region.ready md ops done).contains i = true) (hl : waits md ops late done i = true)
    (hQ : ∀ c a w, Q (.panic c) (a.put oi.dst v) w → Q (.panic c) a w) (hy : YieldsIf P ops S oi v a) (hS : S w) (h : Gz P md ops Q S late n (done.setIfInBounds i true) (a.put oi.dst v) w) : Gz P md ops Q S late (n + 1) done a w :=
  Gz.first hi hs hQ n done a w (Region.free_spec hi hf) (waits_spec hl) (by simpa using hr) hy hS h
/-- The only one that may come up. -/
theorem Gz.one {i : Nat} {o : Oper} {n : Nat} {done : Array Bool} {a : Act} {w : World} (hr : Region.ready md ops done = [i]) (ho : ops[i]? = some o)
    (h : ∀ K' : Act → World → Prop, Shut (∀ a w, (late i = false → S w) → Gz P md ops Q S late n (done.setIfInBounds i true) a w → K' a w) → if Region.wanted o (yielded ops a.tmps) = true then Oper.wp P o a w K' Q else K' (a.put o.dst undef) w) : Gz P md ops Q S late (n + 1) done a w := by
  refine ⟨fun h0 => ?_, fun j hj => ?_⟩
  · rw [hr] at h0
    cases h0
  · rw [hr] at hj
    obtain rfl := List.mem_singleton.1 hj
    exact wpOp_step ho (fun K' hK => h K' (fun a w hS hW => hK a w ⟨hS, hW⟩))
theorem Gz.done {done : Array Bool} {a : Act} {w : World} (hr : Region.ready md ops done = []) (h : Q .normal a w) : ∀ n, Gz P md ops Q S late n done a w
  | 0 => ⟨hr, h⟩
  | _ + 1 => ⟨fun _ => h, by rw [hr]; simp⟩
theorem Gz.begin {id : Nat} {a : Act} {w : World} (S : World → Prop) (late : Nat → Bool) (hm : P.follows .mixedOrders = true) (h : Gz P .any ops Q S late ops.size (Array.replicate ops.size false) a w.drew) : (Code.region id ops true).wp P Q a w :=
  wp_region_any hm (h.any)

end
end Go.Proofs.Ytebpkhemkdgbjaa

namespace Go.Proofs.Ytebpkhemkdgbjaa
open Go

theorem Gz.to {P : Program} {md : Region.Mode} {ops : Array Oper} {Q : Exit → Act → World → Prop} {S S' : World → Prop} {late : Nat → Bool} (h : ∀ w, S' w → S w) : ∀ (n : Nat) (done : Array Bool) (a : Act) (w : World), Gz P md ops Q S' late n done a w → Gz P md ops Q S late n done a w
  | 0, _, _, _, k => k
  | n + 1, _, _, _, k => ⟨k.1, fun i hi => wpOp_mono (fun a' w' q => ⟨fun e => h _ (q.1 e), Gz.to h n _ a' w' q.2⟩) (k.2 i hi)⟩

end Go.Proofs.Ytebpkhemkdgbjaa

namespace Go.Proofs.Ytebpkhemkdgbjaa
open Go.RowKit

theorem neq_b3 (s t : B3) (W : World) : (binOp .neq 81 (.agg #[.bool s.a, .bool s.b, .bool s.c]) (.agg #[.bool t.a, .bool t.b, .bool t.c])).run Try.prog W = .ok (.bool (!B3.eqv s t)) W := by
  obtain ⟨a, b, c⟩ := s
  obtain ⟨x, y, z⟩ := t
  cases a <;> cases b <;> cases c <;> cases x <;> cases y <;> cases z <;> kernel_rfl

/-- What is wrong with it ahead of its outcome. -/
def wrongP (z : Tn) : Bool := isNull z.ow || (!isNull (butG z.vo (memO z.ow) 3) || !isNull (butG z.dn (memO z.ow) 3))
/-- What is asked for its outcome. -/
def rightP (z : Tn) : Bool :=
  if z.oc = 0 then !B3.eqv z.vo (memO z.ow) && (B3.eqv z.dn B3.none && !reasonP z)
  else if z.oc = 1 then B3.eqv z.vo (memO z.ow) && !reasonP z
  else if z.oc = 2 then B3.eqv z.vo B3.none && !reasonP z
  else if z.oc = 3 then B3.eqv z.vo B3.none && !passesP z.wy
  else false
theorem mayBe_wrong {z : Tn} (h : wrongP z = true) : mayBeP z = false := by
  unfold mayBeP
  rw [if_pos]
  unfold wrongP at h
  by_cases h0 : z.ow = []
  · exact .inl h0
  · have : isNull z.ow = false := by
      cases hz : z.ow with
      | nil => exact absurd hz h0
      | cons _ _ => rfl
    rw [this] at h
    by_cases h1 : isNull (butG z.vo (memO z.ow) 3) = false
    · exact .inr (.inl h1)
    · have h1' : isNull (butG z.vo (memO z.ow) 3) = true := by simpa using h1
      rw [h1'] at h
      exact .inr (.inr (by simpa using h))
theorem mayBe_right {z : Tn} (h : wrongP z = false) : mayBeP z = rightP z := by
  unfold mayBeP rightP
  rw [if_neg]
  unfold wrongP at h
  simp at h
  obtain ⟨h0, h1, h2⟩ := h
  rintro (q | q | q)
  · rw [q] at h0; simp [isNull] at h0
  · rw [h1] at q; cases q
  · rw [h2] at q; cases q
theorem null_len (l : List Nat) : isNull l = (l.length == 0) := by cases l <;> simp [isNull]

set_option maxRecDepth 100000 in
set_option maxHeartbeats 4000000 in
theorem mayBe_any {w : World} {b T : Nat} {ov tv : Value} {z : Tn} (h : Tm w b T ov tv z) :
    Calls Try.prog 51 #[.pointer (some ⟨T, 0, none⟩)] w fun e w' => e = .returned (.bool (mayBeP z)) ∧ Kept (fun _ => True) w w' := by
  have H : Hid (Tm w b T ov tv z) := h
  have cm := members_any h
  obtain ⟨oo, oc, rfl⟩ := h.ow.shape
  have hf := h.few
  have hN := null_len z.ow
  have CB1 : Hid (∀ W, Calls Try.prog 42 #[.agg #[.bool z.vo.a, .bool z.vo.b, .bool z.vo.c], .agg #[.bool (memO z.ow).a, .bool (memO z.ow).b, .bool (memO z.ow).c]] W fun e w' => ∃ v, e = .returned v ∧ Its w' W.heap.size v (butG z.vo (memO z.ow) 3) ∧ Kept (fun _ => True) W w') := fun W => but_any z.vo (memO z.ow)
  have CB2 : Hid (∀ W, Calls Try.prog 42 #[.agg #[.bool z.dn.a, .bool z.dn.b, .bool z.dn.c], .agg #[.bool (memO z.ow).a, .bool (memO z.ow).b, .bool (memO z.ow).c]] W fun e w' => ∃ v, e = .returned v ∧ Its w' W.heap.size v (butG z.dn (memO z.ow) 3) ∧ Kept (fun _ => True) W w') := fun W => but_any z.dn (memO z.ow)
  have HW : Hid (wrongP z = true → mayBeP z = false) := mayBe_wrong
  have HR : Hid (wrongP z = false → mayBeP z = rightP z) := mayBe_right
  have HWd : Hid (wrongP z = (isNull z.ow || (!isNull (butG z.vo (memO z.ow) 3) || !isNull (butG z.dn (memO z.ow) 3)))) := rfl
  have HRd : Hid (rightP z = if z.oc = 0 then !B3.eqv z.vo (memO z.ow) && (B3.eqv z.dn B3.none && !reasonP z) else if z.oc = 1 then B3.eqv z.vo (memO z.ow) && !reasonP z else if z.oc = 2 then B3.eqv z.vo B3.none && !reasonP z else if z.oc = 3 then B3.eqv z.vo B3.none && !passesP z.wy else false) := rfl
  unfold B3.val at cm
  generalize memO z.ow = mm at *
  generalize mayBeP z = mp at *
  clear h
  go_enter Try.func51, Try.ntmps51
  go_wp2_with (go_at_call 36; (with_reducible refine Calls.mono cm ?_); rintro e w1 ⟨rfl, k1⟩)
  have hA := Ba.made w1 mm
  have kA : Kept (fun _ => True) w (w1.alloc (.cells #[.bool mm.a, .bool mm.b, .bool mm.c] 81)) := k1.alloc _
  have HA : Hid (Ba (w1.alloc (.cells #[.bool mm.a, .bool mm.b, .bool mm.c] 81)) w1.heap.size mm) := hA
  have HK : Hid (Kept (fun _ => True) w (w1.alloc (.cells #[.bool mm.a, .bool mm.b, .bool mm.c] 81))) := kA
  clear hA kA k1 cm
  generalize w1.alloc (.cells #[.bool mm.a, .bool mm.b, .bool mm.c] 81) = w2 at *
  generalize w1.heap.size = A at *
  have hk2 : ∀ W, Kept (fun _ => True) w2 W → Tm W b T (.slice oo z.ow.length oc) tv z := fun W k => H.out.all (HK.out.trans k)
  have C0 : ∀ W, Kept (fun _ => True) w2 W → W.cell? ⟨T, 0, none⟩ = some (.slice oo z.ow.length oc) := fun W k => (hk2 W k).c.1
  have C2 : ∀ W, Kept (fun _ => True) w2 W → W.cell? ⟨T, 2, none⟩ = some (.bool z.vo.a) := fun W k => (hk2 W k).cv.1
  have C3 : ∀ W, Kept (fun _ => True) w2 W → W.cell? ⟨T, 3, none⟩ = some (.bool z.vo.b) := fun W k => (hk2 W k).cv.2.1
  have C4 : ∀ W, Kept (fun _ => True) w2 W → W.cell? ⟨T, 4, none⟩ = some (.bool z.vo.c) := fun W k => (hk2 W k).cv.2.2
  have C5 : ∀ W, Kept (fun _ => True) w2 W → W.cell? ⟨T, 5, none⟩ = some (.bool z.dn.a) := fun W k => (hk2 W k).cd.1
  have C6 : ∀ W, Kept (fun _ => True) w2 W → W.cell? ⟨T, 6, none⟩ = some (.bool z.dn.b) := fun W k => (hk2 W k).cd.2.1
  have C7 : ∀ W, Kept (fun _ => True) w2 W → W.cell? ⟨T, 7, none⟩ = some (.bool z.dn.c) := fun W k => (hk2 W k).cd.2.2
  have A0 : ∀ W, Kept (fun _ => True) w2 W → W.cell? ⟨A, 0, none⟩ = some (.bool mm.a) := fun W k => (Ba.cells3 (HA.out.kept k trivial)).1
  have A1 : ∀ W, Kept (fun _ => True) w2 W → W.cell? ⟨A, 1, none⟩ = some (.bool mm.b) := fun W k => (Ba.cells3 (HA.out.kept k trivial)).2.1
  have A2 : ∀ W, Kept (fun _ => True) w2 W → W.cell? ⟨A, 2, none⟩ = some (.bool mm.c) := fun W k => (Ba.cells3 (HA.out.kept k trivial)).2.2
  have HK2 : Hid (∀ W, Kept (fun _ => True) w2 W → Tm W b T (.slice oo z.ow.length oc) tv z) := hk2
  clear hk2
  go_upto_region 2 with fail
  cases e0 : isNull z.ow
  · cases e1 : isNull (butG z.vo mm 3)
    · have hm : mp = false := HW.out (by rw [HWd.out, e0, e1]; rfl)
      subst hm
      rw [e0] at hN
      have hN2 := null_len (butG z.vo mm 3)
      rw [e1] at hN2
      have hb := butG_most z.vo mm 3
      have g1 : (0 : Int) < ((butG z.vo mm 3).length : Int) := by
        have h9 : ((butG z.vo mm 3).length == 0) = false := hN2.symm
        rw [beq_eq_false_iff_ne] at h9
        omega
      have g2 : 0 < (butG z.vo mm 3).length := by omega
      have g3 : decide (0 < (butG z.vo mm 3).length) = true := by simp; omega
      have g0 : ((z.ow.length : Int) == 0) = false := by
        have h9 : (z.ow.length == 0) = false := hN.symm
        rw [beq_eq_false_iff_ne] at h9 ⊢
        omega
      clear hN e0 e1 hN2 CB2 HR HRd HW HWd C5 C6 C7
      refine Gz.begin (fun W => Kept (fun _ => True) w2 W) (fun _ => false) (by kernel_rfl) ?_
      refine Gz.take (i := 0) (oi := { dst := some 7, op := Op.move (Operand.tmp 0), type := 28, pos := _, after := #[], guard := none }) (v := ?_) rfl (by kernel_rfl) (by kernel_rfl) (by kernel_rfl) (by kernel_rfl) (fun _ _ _ h => h) (Or.inl ⟨by rfl, ?hy0⟩) (Kept.refl _ _).drew ?_
      case hy0 => (intro W hSw; (try dsimp only at hSw); go_simp; try with_reducible rfl)
      try simp only [Act.put, List.setIfInBounds_toArray, List.set_cons_zero, List.set_cons_succ]
      refine Gz.take (i := 1) (oi := { dst := some 8, op := Op.nilCheck (Operand.tmp 7), type := 0, pos := _, after := #[{ on := 0, ground := Ground.data }], guard := none }) (v := ?_) rfl (by kernel_rfl) (by kernel_rfl) (by kernel_rfl) (by kernel_rfl) (fun _ _ _ h => h) (Or.inl ⟨by rfl, ?hy1⟩) (Kept.refl _ _).drew ?_
      case hy1 => (intro W hSw; (try dsimp only at hSw); go_simp; try with_reducible rfl)
      try simp only [Act.put, List.setIfInBounds_toArray, List.set_cons_zero, List.set_cons_succ]
      refine Gz.take (i := 2) (oi := { dst := some 9, op := Op.fieldAddr 83 (Operand.tmp 8) 0, type := 0, pos := _, after := #[{ on := 1, ground := Ground.data }], guard := none }) (v := ?_) rfl (by kernel_rfl) (by kernel_rfl) (by kernel_rfl) (by kernel_rfl) (fun _ _ _ h => h) (Or.inl ⟨by rfl, ?hy2⟩) (Kept.refl _ _).drew ?_
      case hy2 => (intro W hSw; (try dsimp only at hSw); go_simp; try with_reducible rfl)
      try simp only [Act.put, List.setIfInBounds_toArray, List.set_cons_zero, List.set_cons_succ]
      refine Gz.take (i := 3) (oi := { dst := some 10, op := Op.load 39 (Operand.tmp 9), type := 39, pos := _, after := #[{ on := 2, ground := Ground.data }], guard := none }) (v := ?_) rfl (by kernel_rfl) (by kernel_rfl) (by kernel_rfl) (by kernel_rfl) (fun _ _ _ h => h) (Or.inl ⟨by rfl, ?hy3⟩) (Kept.refl _ _).drew ?_
      case hy3 => (intro W hSw; (try dsimp only at hSw); go_simp; try with_reducible rfl)
      try simp only [Act.put, List.setIfInBounds_toArray, List.set_cons_zero, List.set_cons_succ]
      refine Gz.take (i := 4) (oi := { dst := some 11, op := Op.call { callee := Callee.builtin Builtin.len, args := #[Operand.tmp 10], argTypes := #[39] }, type := 3, pos := _, after := #[{ on := 3, ground := Ground.data }], guard := none }) (v := ?_) rfl (by kernel_rfl) (by kernel_rfl) (by kernel_rfl) (by kernel_rfl) (fun _ _ _ h => h) (Or.inl ⟨by rfl, ?hy4⟩) (Kept.refl _ _).drew ?_
      case hy4 => (intro W hSw; (try dsimp only at hSw); go_simp; try with_reducible rfl)
      try simp only [Act.put, List.setIfInBounds_toArray, List.set_cons_zero, List.set_cons_succ]
      refine Gz.take (i := 5) (oi := { dst := some 12, op := Op.binOp BinOp.eql 3 (Operand.tmp 11) (Operand.const (Value.int IntKind.i64 0)) 3, type := 4, pos := _, after := #[{ on := 4, ground := Ground.data }], guard := none }) (v := ?_) rfl (by kernel_rfl) (by kernel_rfl) (by kernel_rfl) (by kernel_rfl) (fun _ _ _ h => h) (Or.inl ⟨by rfl, ?hy5⟩) (Kept.refl _ _).drew ?_
      case hy5 => (intro W hSw; (try dsimp only at hSw); go_simp; try with_reducible rfl)
      try simp only [Act.put, List.setIfInBounds_toArray, List.set_cons_zero, List.set_cons_succ]
      refine Gz.take (i := 6) (oi := { dst := some 13, op := Op.move (Operand.tmp 12), type := 4, pos := _, after := #[{ on := 5, ground := Ground.data }], guard := none }) (v := ?_) rfl (by kernel_rfl) (by kernel_rfl) (by kernel_rfl) (by kernel_rfl) (fun _ _ _ h => h) (Or.inl ⟨by rfl, ?hy6⟩) (Kept.refl _ _).drew ?_
      case hy6 => (intro W hSw; (try dsimp only at hSw); go_simp; try with_reducible rfl)
      try simp only [Act.put, List.setIfInBounds_toArray, List.set_cons_zero, List.set_cons_succ]
      refine Gz.take (i := 7) (oi := { dst := some 14, op := Op.move (Operand.tmp 0), type := 28, pos := _, after := #[{ on := 6, ground := Ground.guard }], guard := some (6, false) }) (v := ?_) rfl (by kernel_rfl) (by kernel_rfl) (by kernel_rfl) (by kernel_rfl) (fun _ _ _ h => h) (Or.inl ⟨by rfl, ?hy7⟩) (Kept.refl _ _).drew ?_
      case hy7 => (intro W hSw; (try dsimp only at hSw); go_simp; try with_reducible rfl)
      try simp only [Act.put, List.setIfInBounds_toArray, List.set_cons_zero, List.set_cons_succ]
      refine Gz.take (i := 8) (oi := { dst := some 15, op := Op.nilCheck (Operand.tmp 14), type := 0, pos := _, after := #[{ on := 7, ground := Ground.data }, { on := 6, ground := Ground.guard }], guard := some (6, false) }) (v := ?_) rfl (by kernel_rfl) (by kernel_rfl) (by kernel_rfl) (by kernel_rfl) (fun _ _ _ h => h) (Or.inl ⟨by rfl, ?hy8⟩) (Kept.refl _ _).drew ?_
      case hy8 => (intro W hSw; (try dsimp only at hSw); go_simp; try with_reducible rfl)
      try simp only [Act.put, List.setIfInBounds_toArray, List.set_cons_zero, List.set_cons_succ]
      refine Gz.take (i := 9) (oi := { dst := some 16, op := Op.fieldAddr 83 (Operand.tmp 15) 2, type := 0, pos := _, after := #[{ on := 8, ground := Ground.data }, { on := 6, ground := Ground.guard }], guard := some (6, false) }) (v := ?_) rfl (by kernel_rfl) (by kernel_rfl) (by kernel_rfl) (by kernel_rfl) (fun _ _ _ h => h) (Or.inl ⟨by rfl, ?hy9⟩) (Kept.refl _ _).drew ?_
      case hy9 => (intro W hSw; (try dsimp only at hSw); go_simp; try with_reducible rfl)
      try simp only [Act.put, List.setIfInBounds_toArray, List.set_cons_zero, List.set_cons_succ]
      refine Gz.take (i := 10) (oi := { dst := some 17, op := Op.load 81 (Operand.tmp 16), type := 81, pos := _, after := #[{ on := 9, ground := Ground.data }, { on := 6, ground := Ground.guard }], guard := some (6, false) }) (v := ?_) rfl (by kernel_rfl) (by kernel_rfl) (by kernel_rfl) (by kernel_rfl) (fun _ _ _ h => h) (Or.inl ⟨by rfl, ?hy10⟩) (Kept.refl _ _).drew ?_
      case hy10 => (intro W hSw; (try dsimp only at hSw); go_simp; try with_reducible rfl)
      try simp only [Act.put, List.setIfInBounds_toArray, List.set_cons_zero, List.set_cons_succ]
      refine Gz.take (i := 11) (oi := { dst := some 18, op := Op.load 81 (Operand.tmp 3), type := 81, pos := _, after := #[{ on := 6, ground := Ground.guard }], guard := some (6, false) }) (v := ?_) rfl (by kernel_rfl) (by kernel_rfl) (by kernel_rfl) (by kernel_rfl) (fun _ _ _ h => h) (Or.inl ⟨by rfl, ?hy11⟩) (Kept.refl _ _).drew ?_
      case hy11 => (intro W hSw; (try dsimp only at hSw); go_simp; try with_reducible rfl)
      try simp only [Act.put, List.setIfInBounds_toArray, List.set_cons_zero, List.set_cons_succ]
      refine Gz.one (i := 12) (o := { dst := some 19, op := Op.call { callee := Callee.value (Operand.func 42), args := #[Operand.tmp 17, Operand.tmp 18], argTypes := #[81, 81] }, type := 39, pos := _, after := #[{ on := 10, ground := Ground.data }, { on := 11, ground := Ground.data }, { on := 6, ground := Ground.chain }, { on := 6, ground := Ground.guard }], guard := some (6, false) }) (by kernel_rfl) rfl (fun K hK => ?_)
      go_simp
      with_reducible refine Calls.mono (CB1.out _) ?_
      rintro e w9 ⟨v9, rfl, h9, k9⟩
      obtain ⟨vo9, vc9, rfl⟩ := h9.shape
      have s9 : Kept (fun _ => True) w2 w9 := (Kept.refl _ _).drew.trans k9
      clear h9 k9
      try go_wp2_with fail
      refine hK.out _ _ (fun _ => s9) ?_
      clear hK K
      try simp only [Act.put, List.setIfInBounds_toArray, List.set_cons_zero, List.set_cons_succ]
      refine Gz.take (i := 13) (oi := { dst := some 20, op := Op.call { callee := Callee.builtin Builtin.len, args := #[Operand.tmp 19], argTypes := #[39] }, type := 3, pos := _, after := #[{ on := 12, ground := Ground.data }, { on := 6, ground := Ground.guard }], guard := some (6, false) }) (v := ?_) rfl (by kernel_rfl) (by kernel_rfl) (by kernel_rfl) (by kernel_rfl) (fun _ _ _ h => h) (Or.inl ⟨by rfl, ?hy13⟩) s9 ?_
      case hy13 => (intro W hSw; (try dsimp only at hSw); go_simp; try with_reducible rfl)
      try simp only [Act.put, List.setIfInBounds_toArray, List.set_cons_zero, List.set_cons_succ]
      refine Gz.take (i := 14) (oi := { dst := some 21, op := Op.binOp BinOp.gtr 3 (Operand.tmp 20) (Operand.const (Value.int IntKind.i64 0)) 3, type := 4, pos := _, after := #[{ on := 13, ground := Ground.data }, { on := 6, ground := Ground.guard }], guard := some (6, false) }) (v := ?_) rfl (by kernel_rfl) (by kernel_rfl) (by kernel_rfl) (by kernel_rfl) (fun _ _ _ h => h) (Or.inl ⟨by rfl, ?hy14⟩) s9 ?_
      case hy14 => (intro W hSw; (try dsimp only at hSw); go_simp; try with_reducible rfl)
      try simp only [Act.put, List.setIfInBounds_toArray, List.set_cons_zero, List.set_cons_succ]
      refine Gz.take (i := 15) (oi := { dst := some 22, op := Op.pick (Operand.tmp 13) (Operand.const (Value.bool true)) (Operand.tmp 21), type := 4, pos := _, after := #[{ on := 6, ground := Ground.data }, { on := 14, ground := Ground.data }], guard := none }) (v := ?_) rfl (by kernel_rfl) (by kernel_rfl) (by kernel_rfl) (by kernel_rfl) (fun _ _ _ h => h) (Or.inl ⟨by rfl, ?hy15⟩) s9 ?_
      case hy15 => (intro W hSw; (try dsimp only at hSw); go_simp; try with_reducible rfl)
      try simp only [Act.put, List.setIfInBounds_toArray, List.set_cons_zero, List.set_cons_succ]
      refine Gz.take (i := 16) (oi := { dst := some 23, op := Op.move (Operand.tmp 22), type := 4, pos := _, after := #[{ on := 15, ground := Ground.data }, { on := 12, ground := Ground.chain }], guard := none }) (v := ?_) rfl (by kernel_rfl) (by kernel_rfl) (by kernel_rfl) (by kernel_rfl) (fun _ _ _ h => h) (Or.inl ⟨by rfl, ?hy16⟩) s9 ?_
      case hy16 => (intro W hSw; (try dsimp only at hSw); go_simp; try with_reducible rfl)
      try simp only [Act.put, List.setIfInBounds_toArray, List.set_cons_zero, List.set_cons_succ]
      refine Gz.take (i := 17) (oi := { dst := some 24, op := Op.move (Operand.tmp 0), type := 28, pos := _, after := #[{ on := 16, ground := Ground.guard }], guard := some (16, false) }) (v := undef) rfl (by kernel_rfl) (by kernel_rfl) (by kernel_rfl) (by kernel_rfl) (fun _ _ _ h => h) (Or.inr ⟨by rfl, rfl⟩) s9 ?_
      try simp only [Act.put, List.setIfInBounds_toArray, List.set_cons_zero, List.set_cons_succ]
      refine Gz.take (i := 18) (oi := { dst := some 25, op := Op.nilCheck (Operand.tmp 24), type := 0, pos := _, after := #[{ on := 17, ground := Ground.data }, { on := 16, ground := Ground.guard }], guard := some (16, false) }) (v := undef) rfl (by kernel_rfl) (by kernel_rfl) (by kernel_rfl) (by kernel_rfl) (fun _ _ _ h => h) (Or.inr ⟨by rfl, rfl⟩) s9 ?_
      try simp only [Act.put, List.setIfInBounds_toArray, List.set_cons_zero, List.set_cons_succ]
      refine Gz.take (i := 19) (oi := { dst := some 26, op := Op.fieldAddr 83 (Operand.tmp 25) 3, type := 0, pos := _, after := #[{ on := 18, ground := Ground.data }, { on := 16, ground := Ground.guard }], guard := some (16, false) }) (v := undef) rfl (by kernel_rfl) (by kernel_rfl) (by kernel_rfl) (by kernel_rfl) (fun _ _ _ h => h) (Or.inr ⟨by rfl, rfl⟩) s9 ?_
      try simp only [Act.put, List.setIfInBounds_toArray, List.set_cons_zero, List.set_cons_succ]
      refine Gz.take (i := 20) (oi := { dst := some 27, op := Op.load 81 (Operand.tmp 26), type := 81, pos := _, after := #[{ on := 19, ground := Ground.data }, { on := 16, ground := Ground.guard }], guard := some (16, false) }) (v := undef) rfl (by kernel_rfl) (by kernel_rfl) (by kernel_rfl) (by kernel_rfl) (fun _ _ _ h => h) (Or.inr ⟨by rfl, rfl⟩) s9 ?_
      try simp only [Act.put, List.setIfInBounds_toArray, List.set_cons_zero, List.set_cons_succ]
      refine Gz.take (i := 21) (oi := { dst := some 28, op := Op.load 81 (Operand.tmp 3), type := 81, pos := _, after := #[{ on := 16, ground := Ground.guard }], guard := some (16, false) }) (v := undef) rfl (by kernel_rfl) (by kernel_rfl) (by kernel_rfl) (by kernel_rfl) (fun _ _ _ h => h) (Or.inr ⟨by rfl, rfl⟩) s9 ?_
      try simp only [Act.put, List.setIfInBounds_toArray, List.set_cons_zero, List.set_cons_succ]
      refine Gz.take (i := 22) (oi := { dst := some 29, op := Op.call { callee := Callee.value (Operand.func 42), args := #[Operand.tmp 27, Operand.tmp 28], argTypes := #[81, 81] }, type := 39, pos := _, after := #[{ on := 20, ground := Ground.data }, { on := 21, ground := Ground.data }, { on := 16, ground := Ground.chain }, { on := 16, ground := Ground.guard }], guard := some (16, false) }) (v := undef) rfl (by kernel_rfl) (by kernel_rfl) (by kernel_rfl) (by kernel_rfl) (fun _ _ _ h => h) (Or.inr ⟨by rfl, rfl⟩) s9 ?_
      try simp only [Act.put, List.setIfInBounds_toArray, List.set_cons_zero, List.set_cons_succ]
      refine Gz.take (i := 23) (oi := { dst := some 30, op := Op.call { callee := Callee.builtin Builtin.len, args := #[Operand.tmp 29], argTypes := #[39] }, type := 3, pos := _, after := #[{ on := 22, ground := Ground.data }, { on := 16, ground := Ground.guard }], guard := some (16, false) }) (v := undef) rfl (by kernel_rfl) (by kernel_rfl) (by kernel_rfl) (by kernel_rfl) (fun _ _ _ h => h) (Or.inr ⟨by rfl, rfl⟩) s9 ?_
      try simp only [Act.put, List.setIfInBounds_toArray, List.set_cons_zero, List.set_cons_succ]
      refine Gz.take (i := 24) (oi := { dst := some 31, op := Op.binOp BinOp.gtr 3 (Operand.tmp 30) (Operand.const (Value.int IntKind.i64 0)) 3, type := 4, pos := _, after := #[{ on := 23, ground := Ground.data }, { on := 16, ground := Ground.guard }], guard := some (16, false) }) (v := undef) rfl (by kernel_rfl) (by kernel_rfl) (by kernel_rfl) (by kernel_rfl) (fun _ _ _ h => h) (Or.inr ⟨by rfl, rfl⟩) s9 ?_
      try simp only [Act.put, List.setIfInBounds_toArray, List.set_cons_zero, List.set_cons_succ]
      refine Gz.take (i := 25) (oi := { dst := some 32, op := Op.pick (Operand.tmp 23) (Operand.const (Value.bool true)) (Operand.tmp 31), type := 4, pos := _, after := #[{ on := 16, ground := Ground.data }, { on := 24, ground := Ground.data }], guard := none }) (v := ?_) rfl (by kernel_rfl) (by kernel_rfl) (by kernel_rfl) (by kernel_rfl) (fun _ _ _ h => h) (Or.inl ⟨by rfl, ?hy25⟩) s9 ?_
      case hy25 => (intro W hSw; (try dsimp only at hSw); go_simp; try with_reducible rfl)
      try simp only [Act.put, List.setIfInBounds_toArray, List.set_cons_zero, List.set_cons_succ]
      refine Gz.done (by kernel_rfl) ?_ _
      go_wp2_with fail
      go_ret
      exact ⟨rfl, HK.out.trans s9⟩
    · rw [isNull_iff] at e1
      rw [e0] at hN
      have g0 : ((z.ow.length : Int) == 0) = false := by
        have h9 : (z.ow.length == 0) = false := hN.symm
        rw [beq_eq_false_iff_ne] at h9 ⊢
        omega
      have HW1 : Hid (wrongP z = !isNull (butG z.dn mm 3)) := by
        show _ = _
        rw [HWd.out, e0, e1]
        rfl
      rw [e1] at CB1
      clear e0 e1 hN HWd
      cases e2 : isNull (butG z.dn mm 3)
      · have hm : mp = false := HW.out (by rw [HW1.out, e2]; rfl)
        subst hm
        have hN2 := null_len (butG z.dn mm 3)
        rw [e2] at hN2
        have hb := butG_most z.dn mm 3
        have g1 : (0 : Int) < ((butG z.dn mm 3).length : Int) := by
          have h9 : ((butG z.dn mm 3).length == 0) = false := hN2.symm
          rw [beq_eq_false_iff_ne] at h9
          omega
        have g2 : 0 < (butG z.dn mm 3).length := by omega
        have g3 : decide (0 < (butG z.dn mm 3).length) = true := by simp; omega
        clear e2 hN2 HR HRd HW HW1
        go_region_held3 (fun W => Kept (fun _ => True) w2 W) (first | assumption | (repeat (first | assumption | exact Kept.refl _ _ | refine Kept.drew ?_))) (first
          | (go_at_call 42; (with_reducible refine Calls.mono (CB1.out _) ?_); rintro e w8 ⟨v8, rfl, h8, k8⟩; obtain ⟨vo8, vc8, rfl⟩ := h8.shape; have s8 : Kept (fun _ => True) w2 w8 := (Kept.refl _ _).drew.trans k8; clear h8 k8)
          | (go_at_call 42; (with_reducible refine Calls.mono (CB2.out _) ?_); rintro e w9 ⟨v9, rfl, h9, k9⟩; obtain ⟨vo9, vc9, rfl⟩ := h9.shape; have s9 : Kept (fun _ => True) w2 w9 := s8.trans k9; clear h9 k9))
        go_wp2_with fail
        go_ret
        exact ⟨rfl, HK.out.trans s9⟩
      · have hm : mp = rightP z := HR.out (by rw [HW1.out, e2]; rfl)
        rw [isNull_iff] at e2
        rw [e2] at CB2
        clear e2 HW HR HW1
        go_region_held3 (fun W => Kept (fun _ => True) w2 W) (first | assumption | (repeat (first | assumption | exact Kept.refl _ _ | refine Kept.drew ?_))) (first
          | (go_at_call 42; (with_reducible refine Calls.mono (CB1.out _) ?_); rintro e w8 ⟨v8, rfl, h8, k8⟩; obtain ⟨vo8, vc8, rfl⟩ := h8.shape; have s8 : Kept (fun _ => True) w2 w8 := (Kept.refl _ _).drew.trans k8; clear h8 k8)
          | (go_at_call 42; (with_reducible refine Calls.mono (CB2.out _) ?_); rintro e w9 ⟨v9, rfl, h9, k9⟩; obtain ⟨vo9, vc9, rfl⟩ := h9.shape; have s9 : Kept (fun _ => True) w2 w9 := s8.trans k9; clear h9 k9))
        have hT9 := HK2.out w9 s9
        have c8 := hT9.c.2.2.1
        have c9 := hT9.c.2.2.2.1
        have c10 := hT9.c.2.2.2.2
        obtain ⟨v2, v3, v4⟩ := hT9.cv
        obtain ⟨d5, d6, d7⟩ := hT9.cd
        obtain ⟨a0, a1, a2⟩ := Ba.cells3 (HA.out.kept s9 trivial)
        have HK9 : Hid (Kept (fun _ => True) w w9) := HK.out.trans s9
        have HRs : Hid (reasonP z = (z.ar != 0 || z.wy != 0)) := rfl
        have hrp := hm.trans HRd.out
        have cp := fun W : World => passes_any (w := W) z.wy
        have E1 : ∀ W : World, (binOp .eql 81 (.agg #[.bool z.vo.a, .bool z.vo.b, .bool z.vo.c]) (.agg #[.bool mm.a, .bool mm.b, .bool mm.c])).run Try.prog W = .ok (.bool (B3.eqv z.vo mm)) W := eql_b3 z.vo mm
        have N1 : ∀ W : World, (binOp .neq 81 (.agg #[.bool z.vo.a, .bool z.vo.b, .bool z.vo.c]) (.agg #[.bool mm.a, .bool mm.b, .bool mm.c])).run Try.prog W = .ok (.bool (!B3.eqv z.vo mm)) W := neq_b3 z.vo mm
        have E2 : ∀ W : World, (binOp .eql 81 (.agg #[.bool z.dn.a, .bool z.dn.b, .bool z.dn.c]) (.agg #[.bool false, .bool false, .bool false])).run Try.prog W = .ok (.bool (B3.eqv z.dn B3.none)) W := eql_b3 z.dn B3.none
        have E3 : ∀ W : World, (binOp .eql 81 (.agg #[.bool z.vo.a, .bool z.vo.b, .bool z.vo.c]) (.agg #[.bool false, .bool false, .bool false])).run Try.prog W = .ok (.bool (B3.eqv z.vo B3.none)) W := eql_b3 z.vo B3.none
        generalize B3.eqv z.vo mm = q1 at *
        generalize B3.eqv z.dn B3.none = q2 at *
        generalize B3.eqv z.vo B3.none = q3 at *
        generalize passesP z.wy = pw at *
        generalize reasonP z = rs at *
        have HRP : Hid (mp = if z.oc = 0 then !q1 && (q2 && !rs) else if z.oc = 1 then q1 && !rs else if z.oc = 2 then q3 && !rs else if z.oc = 3 then q3 && !pw else false) := hrp
        clear hrp hm HRd HK2 hT9 C0 C2 C3 C4 C5 C6 C7 A0 A1 A2 CB1 CB2 s9 s8 HK HA H hf g0
        go_upto_region 4 with fail
        go_cut [4] from 33 to 44 (fun t wx => t = .bool rs ∧ w9 = wx)
        case first =>
          clear E1 N1 E2 E3 cp
          cases ha : z.ar != 0
          · cases hw : z.wy != 0
            · go_wp2_with fail
              go_meet
              exact ⟨by rw [HRs.out, ha, hw]; rfl, rfl⟩
            · go_wp2_with fail
              go_meet
              exact ⟨by rw [HRs.out, ha, hw]; rfl, rfl⟩
          · go_wp2_with fail
            go_meet
            exact ⟨by rw [HRs.out, ha]; rfl, rfl⟩
        case rest =>
        obtain ⟨rfl, rfl⟩ := hcut
        clear c9 HRs
        by_cases o0 : z.oc = 0
        · have hr : mp = (!q1 && (q2 && !rs)) := HRP.out.trans (if_pos o0)
          rw [o0] at c8
          clear HRP o0 E1 E3 cp
          cases q1
          · simp only [Bool.not_false] at N1
            cases q2
            · go_wp2_with fail
              go_quiet (fail)
              go_wp2_with fail
              go_ret
              exact ⟨by rw [hr]; rfl, HK9.out.drewN _⟩
            · cases rs
              · go_wp2_with fail
                go_quiet (fail)
                go_wp2_with fail
                go_ret
                exact ⟨by rw [hr]; rfl, HK9.out.drewN _⟩
              · go_wp2_with fail
                go_quiet (fail)
                go_wp2_with fail
                go_ret
                exact ⟨by rw [hr]; rfl, HK9.out.drewN _⟩
          · simp only [Bool.not_true] at N1
            go_wp2_with fail
            go_quiet (fail)
            go_wp2_with fail
            go_ret
            exact ⟨by rw [hr]; rfl, HK9.out.drewN _⟩
        · have n0 : (z.oc == 0) = false := by simpa using o0
          by_cases o1 : z.oc = 1
          · have hr : mp = (q1 && !rs) := HRP.out.trans (by rw [if_neg o0, if_pos o1])
            rw [o1] at c8
            clear HRP o0 o1 n0 N1 E2 E3 cp
            cases q1
            · go_wp2_with fail
              go_quiet (fail)
              go_wp2_with fail
              go_ret
              exact ⟨by rw [hr]; rfl, HK9.out.drewN _⟩
            · cases rs
              · go_wp2_with fail
                go_quiet (fail)
                go_wp2_with fail
                go_ret
                exact ⟨by rw [hr]; rfl, HK9.out.drewN _⟩
              · go_wp2_with fail
                go_quiet (fail)
                go_wp2_with fail
                go_ret
                exact ⟨by rw [hr]; rfl, HK9.out.drewN _⟩
          · have n1 : (z.oc == 1) = false := by simpa using o1
            by_cases o2 : z.oc = 2
            · have hr : mp = (q3 && !rs) := HRP.out.trans (by rw [if_neg o0, if_neg o1, if_pos o2])
              rw [o2] at c8
              clear HRP o0 o1 o2 n0 n1 N1 E1 E2 cp
              cases q3
              · go_wp2_with fail
                go_ret
                exact ⟨by rw [hr]; rfl, HK9.out⟩
              · cases rs
                · go_wp2_with fail
                  go_ret
                  exact ⟨by rw [hr]; rfl, HK9.out⟩
                · go_wp2_with fail
                  go_ret
                  exact ⟨by rw [hr]; rfl, HK9.out⟩
            · have n2 : (z.oc == 2) = false := by simpa using o2
              by_cases o3 : z.oc = 3
              · have hr : mp = (q3 && !pw) := HRP.out.trans (by rw [if_neg o0, if_neg o1, if_neg o2, if_pos o3])
                rw [o3] at c8
                clear HRP o0 o1 o2 o3 n0 n1 n2 N1 E1 E2
                cases q3
                · go_wp2_with fail
                  go_ret
                  exact ⟨by rw [hr]; rfl, HK9.out⟩
                · cases pw
                  · go_wp2_with (go_at_call 38; (with_reducible refine Calls.mono (cp _) ?_); rintro e _ ⟨rfl, rfl⟩)
                    go_ret
                    exact ⟨by rw [hr]; rfl, HK9.out⟩
                  · go_wp2_with (go_at_call 38; (with_reducible refine Calls.mono (cp _) ?_); rintro e _ ⟨rfl, rfl⟩)
                    go_ret
                    exact ⟨by rw [hr]; rfl, HK9.out⟩
              · have hr : mp = false := HRP.out.trans (by rw [if_neg o0, if_neg o1, if_neg o2, if_neg o3])
                have n3 : (z.oc == 3) = false := by simpa using o3
                clear HRP o0 o1 o2 o3 N1 E1 E2 E3 cp
                go_wp2_with fail
                go_ret
                exact ⟨by rw [hr]; rfl, HK9.out⟩
  · have hm : mp = false := HW.out (by rw [HWd.out, e0]; rfl)
    subst hm
    rw [e0] at hN
    have hn0 : z.ow.length = 0 := by simpa using hN.symm
    rw [hn0] at C0
    have c0 := C0 w2 (Kept.refl _ _)
    clear hN e0 C0 C2 C3 C4 C5 C6 C7 A0 A1 A2
    go_quiet (fail)
    go_wp2_with fail
    go_ret
    exact ⟨rfl, HK.out.trans ((Kept.refl _ _).drewN _)⟩

end Go.Proofs.Ytebpkhemkdgbjaa
