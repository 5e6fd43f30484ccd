/-
  Regions that draw their order, some of whose operations are late: they wait for all that is taken first, so what is held need not hold behind them.
-/
import Derived.Deep.RegionHeld
namespace Go.Proofs.Ytllopkebamlgeaa
open Go

section
variable {P : Program} {md : Region.Mode} {ops : Array Oper} {Q : Exit → Act → World → Prop} {S : World → Prop} {late : Nat → Bool}

/-- Whatever order is picked: behind each operation that is not late, S. -/
def Gz (P : Program) (md : Region.Mode) (ops : Array Oper) (Q : Exit → Act → World → Prop) (S : World → Prop) (late : Nat → Bool) : Nat → Array Bool → Act → World → Prop
  | 0, done, a, w => Region.ready md ops done = [] ∧ Q .normal a w
  | n + 1, done, a, w => (Region.ready md ops done = [] → Q .normal a w) ∧
      ∀ i ∈ Region.ready md ops done, wpOp P ops Q i (fun a' w' => (late i = false → S w') ∧ Gz P md ops Q S late n (done.setIfInBounds i true) a' w') a w
theorem Gz.any : ∀ (n : Nat) (done : Array Bool) (a : Act) (w : World), Gz P md ops Q S late n done a w → wpAny P md ops Q n done a w
  | 0, _, _, _, h => h
  | n + 1, _, _, _, h => ⟨h.1, fun i hi => wpOp_mono (fun a' w' q => Gz.any n _ a' w' q.2) (h.2 i hi)⟩

/-- Each late one that is still to come waits for i. -/
def waits (md : Region.Mode) (ops : Array Oper) (late : Nat → Bool) (done : Array Bool) (i : Nat) : Bool :=
  (List.range ops.size).all fun j => !(late j) || done.getD j true || (match ops[j]? with
    | none => true
    | some o => o.after.any fun e => Region.binds md e && e.on == i)
theorem waits_spec {done : Array Bool} {i : Nat} (h : waits md ops late done i = true) (j : Nat) (oj : Oper) (hj : ops[j]? = some oj) (hl : late j = true) (hd : done.getD j true = false) : ∃ e ∈ oj.after, Region.binds md e = true ∧ e.on = i := by
  have hlt : j < ops.size := by
    rcases Nat.lt_or_ge j ops.size with h | h
    · exact h
    · rw [Array.getElem?_eq_none h] at hj; cases hj
  have := List.all_eq_true.1 h j (List.mem_range.2 hlt)
  simp only [hl, hd, hj, Bool.not_true, Bool.false_or] at this
  obtain ⟨e, he, hb⟩ := Array.any_eq_true'.1 this
  simp only [Bool.and_eq_true, beq_iff_eq] at hb
  exact ⟨e, he, hb.1, hb.2⟩

theorem not_done {done : Array Bool} {i : Nat} (h0 : done.getD i true = false) (h1 : done.getD i false = true) : False := by
  rcases Nat.lt_or_ge i done.size with h | h
  · simp [h] at h0 h1
    rw [h0] at h1
    cases h1
  · simp [Array.getElem?_eq_none h] at h1
/-- An operation that may come up, and yields v in every world that meets S, may be taken first: what may come ahead of it is not late, so S holds behind that. -/
theorem Gz.first {i : Nat} {oi : Oper} {v : Value} (hi : ops[i]? = some oi) (hs : Region.noSelect ops = true) (hQ : ∀ c a w, Q (.panic c) (a.put oi.dst v) w → Q (.panic c) a w) (n : Nat) :
    ∀ (done : Array Bool) (a : Act) (w : World), (∀ j oj, ops[j]? = some oj → j ≠ i → done.getD j true = false → (∀ e ∈ oj.after, Region.binds md e = true → e.on ≠ i) → oi.apart ops oj = true) →
      (∀ j oj, ops[j]? = some oj → late j = true → done.getD j true = false → ∃ e ∈ oj.after, Region.binds md e = true ∧ e.on = i) →
      i ∈ Region.ready md ops done → YieldsIf P ops S oi v a → S w → Gz P md ops Q S late n (done.setIfInBounds i true) (a.put oi.dst v) w → Gz P md ops Q S late (n + 1) done a w := by
  have sel := Region.noSelect_spec hs
  induction n with
  | zero =>
    intro done a w _ _ hr hy hS H
    refine ⟨fun h => ?_, fun j hj => ?_⟩
    · rw [h] at hr
      cases hr
    · rcases Decidable.em (j = i) with rfl | hne
      · exact hy.wpOp hi hS ⟨fun _ => hS, H⟩
      · have := ready_mono hj hne
        rw [H.1] at this
        cases this
  | succ n ih =>
    intro done a w hfree hlate hr hy hS H
    refine ⟨fun h => ?_, fun j hj => ?_⟩
    · rw [h] at hr
      cases hr
    · rcases Decidable.em (j = i) with rfl | hne
      · exact hy.wpOp hi hS ⟨fun _ => hS, H⟩
      · have hiu := (mem_ready.1 hr).1
        obtain ⟨hju, oj, hoj, hjr⟩ := mem_ready.1 hj
        have hno : ∀ e ∈ oj.after, Region.binds md e = true → e.on ≠ i := fun e he hb q => not_done hiu (by rw [← q]; exact hjr e he hb)
        have hearly : late j = false := by
          cases hl : late j with
          | false => rfl
          | true =>
            obtain ⟨e, he, hb, q⟩ := hlate j oj hoj hl hju
            exact absurd q (hno e he hb)
        have step := wpOp_putIf hoj (hfree j oj hoj hne hju hno) (fun cs b => sel i oi cs b hi) (fun cs b => sel j oj cs b hoj) hQ hy (H.2 j (ready_mono hj hne))
        have less : ∀ k, (done.setIfInBounds j true).getD k true = false → done.getD k true = false := fun k hk => by
          rcases Decidable.em (j = k) with rfl | h
          · exact hju
          · rwa [getD_set_ne true h] at hk
        refine wpOp_mono (fun a' w' q => ⟨q.2.1, ih _ a' w' (fun k ok hk hki hun hn => hfree k ok hk hki (less k hun) hn) (fun k ok hk hl hun => hlate k ok hk hl (less k hun)) (ready_mono hr (Ne.symm hne)) q.1 (q.2.1 hearly) ?_⟩) step
        rw [Array.setIfInBounds_comm _ _ hne]
        exact q.2.2
theorem Gz.take {i : Nat} {oi : Oper} {v : Value} {n : Nat} {done : Array Bool} {a : Act} {w : World} (hi : ops[i]? = some oi) (hs : Region.noSelect ops = true) (hf : Region.free md ops done i = true) (hr : (Region.ready md ops done).contains i = true) (hl : waits md ops late done i = true)
    (hQ : ∀ c a w, Q (.panic c) (a.put oi.dst v) w → Q (.panic c) a w) (hy : YieldsIf P ops S oi v a) (hS : S w) (h : Gz P md ops Q S late n (done.setIfInBounds i true) (a.put oi.dst v) w) : Gz P md ops Q S late (n + 1) done a w :=
  Gz.first hi hs hQ n done a w (Region.free_spec hi hf) (waits_spec hl) (by simpa using hr) hy hS h
theorem Gz.tk {i : Nat} {oi : Oper} {v : Value} {n : Nat} {done : Array Bool} {a : Act} {w : World} (hi : ops[i]? = some oi) (hb : (((Region.noSelect ops && Region.free md ops done i) && (Region.ready md ops done).contains i) && waits md ops late done i) = true)
    (hQ : ∀ c a w, Q (.panic c) (a.put oi.dst v) w → Q (.panic c) a w) (hy : YieldsIf P ops S oi v a) (hS : S w) (h : Gz P md ops Q S late n (done.setIfInBounds i true) (a.put oi.dst v) w) : Gz P md ops Q S late (n + 1) done a w := by
  simp only [Bool.and_eq_true] at hb
  exact Gz.take hi hb.1.1.1 hb.1.1.2 hb.1.2 hb.2 hQ hy hS h
/-- The only one that may come up. -/
theorem Gz.one {i : Nat} {o : Oper} {n : Nat} {done : Array Bool} {a : Act} {w : World} (hr : Region.ready md ops done = [i]) (ho : ops[i]? = some o)
    (h : ∀ K' : Act → World → Prop, Shut (∀ a w, (late i = false → S w) → Gz P md ops Q S late n (done.setIfInBounds i true) a w → K' a w) → if Region.wanted o (yielded ops a.tmps) = true then Oper.wp P o a w K' Q else K' (a.put o.dst undef) w) : Gz P md ops Q S late (n + 1) done a w := by
  refine ⟨fun h0 => ?_, fun j hj => ?_⟩
  · rw [hr] at h0
    cases h0
  · rw [hr] at hj
    obtain rfl := List.mem_singleton.1 hj
    exact wpOp_step ho (fun K' hK => h K' (fun a w hS hW => hK a w ⟨hS, hW⟩))
theorem Gz.done {done : Array Bool} {a : Act} {w : World} (hr : Region.ready md ops done = []) (h : Q .normal a w) : ∀ n, Gz P md ops Q S late n done a w
  | 0 => ⟨hr, h⟩
  | _ + 1 => ⟨fun _ => h, by rw [hr]; simp⟩
theorem Gz.begin {id : Nat} {a : Act} {w : World} (S : World → Prop) (late : Nat → Bool) (hm : P.follows .mixedOrders = true) (h : Gz P .any ops Q S late ops.size (Array.replicate ops.size false) a w.drew) : (Code.region id ops true).wp P Q a w :=
  wp_region_any hm (h.any)

end
theorem lyA {α : Type} {l : List α} {i : Nat} {a : α} : l.toArray.setIfInBounds i a = (l.set i a).toArray := List.setIfInBounds_toArray ..
theorem ly0 {α : Type} {l : List α} {a b : α} : (a :: l).set 0 b = b :: l := rfl
theorem ly1 {α : Type} {l : List α} {a b : α} {n : Nat} : (a :: l).set (n + 1) b = a :: l.set n b := rfl

end Go.Proofs.Ytllopkebamlgeaa
