/-
  Regions that draw their order, by what holds behind each set of operations that are done: each operation is looked at once.
-/
import Derived.Test.YtnddpalngjmhnaaDoorVOrd
namespace Go.Proofs.YtnddpalngjmhnaaDoor
open Go

section
variable {P : Program} {md : Region.Mode} {ops : Array Oper} {Q : Exit → Act → World → Prop}

/-- What is done, as a function. -/
def dn (done : Array Bool) (i : Nat) : Bool := done.getD i false
theorem dn_set {done : Array Bool} {i j : Nat} (h : i < done.size) : dn (done.setIfInBounds i true) j = (decide (j = i) || dn done j) := by
  unfold dn
  by_cases e : j = i
  · subst e
    simp [h]
  · rw [getD_set_ne false (Ne.symm e)]
    simp [e]
theorem dn_false {done : Array Bool} {i : Nat} (h : done.getD i true = false) : dn done i = false := by
  unfold dn
  rcases Nat.lt_or_ge i done.size with h1 | h1
  · simp [h1] at h ⊢
    exact h
  · simp [Array.getElem?_eq_none h1]

/-- Each operation waits for earlier ones alone. -/
def upward (md : Region.Mode) (ops : Array Oper) : Bool :=
  (List.range ops.size).all fun i => ((ops[i]?).map fun o => o.after.all fun e => !Region.binds md e || decide (e.on < i)).getD true
theorem upward_all (h : upward md ops = true) {done : Array Bool} (hs : done.size = ops.size) (hr : Region.ready md ops done = []) : ∀ j, j < ops.size → dn done j = true := by
  intro j
  induction j using Nat.strongRecOn with
  | _ j ih =>
    intro hj
    cases hd : dn done j with
    | true => rfl
    | false =>
      exfalso
      have : j ∈ Region.ready md ops done := by
        refine mem_ready.2 ⟨?_, ops[j], by simp [hj], fun e he hb => ?_⟩
        · unfold dn at hd
          have : j < done.size := by omega
          simp [this] at hd ⊢
          exact hd
        · have h1 := List.all_eq_true.1 h j (List.mem_range.2 hj)
          simp only [Array.getElem?_eq_getElem hj, Option.map_some, Option.getD_some] at h1
          have h2 := Array.all_eq_true_iff_forall_mem.1 h1 e he
          simp only [hb, Bool.not_true, Bool.false_or, decide_eq_true_eq] at h2
          exact ih _ h2 (by omega)
      rw [hr] at this
      cases this

/-- What each operation does with what holds of the set that is done. -/
def Steps (P : Program) (md : Region.Mode) (ops : Array Oper) (Q : Exit → Act → World → Prop) (S : World → Prop) (late : Nat → Bool) (Inv : (Nat → Bool) → Act → World → Prop) : Nat → List Oper → Prop
  | _, [] => True
  | i, o :: l => (∀ d a w, Inv d a w → d i = false → (∀ e ∈ o.after, Region.binds md e = true → d e.on = true) → ∀ K' : Act → World → Prop, Shut (∀ a w, (late i = false → S w) → Inv (fun j => decide (j = i) || d j) a w → K' a w) → if Region.wanted o (yielded ops a.tmps) = true then Oper.wp P o a w K' Q else K' (a.put o.dst undef) w) ∧
      Steps P md ops Q S late Inv (i + 1) l
theorem Steps.at {S : World → Prop} {late : Nat → Bool} {Inv : (Nat → Bool) → Act → World → Prop} : ∀ {l : List Oper} {k : Nat}, Steps P md ops Q S late Inv k l → ∀ {j : Nat} {o : Oper}, l[j]? = some o → ∀ d a w, Inv d a w → d (k + j) = false → (∀ e ∈ o.after, Region.binds md e = true → d e.on = true) → ∀ K' : Act → World → Prop, Shut (∀ a w, (late (k + j) = false → S w) → Inv (fun i => decide (i = k + j) || d i) a w → K' a w) → if Region.wanted o (yielded ops a.tmps) = true then Oper.wp P o a w K' Q else K' (a.put o.dst undef) w
  | [], _, _, _, _, h => by simp at h
  | o :: l, k, h, 0, o', e => by
    simp only [List.getElem?_cons_zero, Option.some.injEq] at e
    subst e
    exact h.1
  | o :: l, k, h, j + 1, o', e => by
    have := Steps.at h.2 (j := j) (o := o') (by simpa using e)
    rwa [show k + 1 + j = k + (j + 1) by omega] at this

/-- The law: what holds (Inv) of the set that is done goes on behind each operation that may come up, and is enough behind all. -/
theorem gz_inv {S : World → Prop} {late : Nat → Bool} {Inv : (Nat → Bool) → Act → World → Prop} (hu : upward md ops = true)
    (step : Steps P md ops Q S late Inv 0 ops.toList)
    (fin : ∀ d a w, Inv d a w → (∀ j, j < ops.size → d j = true) → Q .normal a w) :
    ∀ (n : Nat) (done : Array Bool) (a : Act) (w : World), done.size = ops.size → done.toList.count false ≤ n → Inv (dn done) a w → Gz P md ops Q S late n done a w := by
  intro n
  induction n with
  | zero =>
    intro done a w hs hc hI
    have hr : Region.ready md ops done = [] := by
      refine List.eq_nil_iff_forall_not_mem.2 fun j hj => ?_
      have h0 := (mem_ready.1 hj).1
      have hlt : j < done.size := by
        rcases Nat.lt_or_ge j done.size with h | h
        · exact h
        · simp [Array.getElem?_eq_none h] at h0
      simp [hlt] at h0
      have : false ∈ done.toList := by rw [← h0]; simp
      have := List.count_pos_iff.2 this
      omega
    exact ⟨hr, fin _ a w hI (upward_all hu hs hr)⟩
  | succ n ih =>
    intro done a w hs hc hI
    refine ⟨fun hr => fin _ a w hI (upward_all hu hs hr), fun i hi => ?_⟩
    obtain ⟨h0, o, ho, hall⟩ := mem_ready.1 hi
    have hlt : i < done.size := by
      rcases Nat.lt_or_ge i done.size with h | h
      · exact h
      · simp [Array.getElem?_eq_none h] at h0
    have hst := Steps.at step (j := i) (o := o) (by simpa using ho) (dn done) a w hI (by rw [Nat.zero_add]; exact dn_false h0) hall
    rw [Nat.zero_add] at hst
    refine wpOp_step ho (fun K' hK => hst K' ?_)
    intro a' w' hS hI'
    refine hK a' w' ⟨hS, ih _ a' w' (by simpa using hs) ?_ ?_⟩
    · have hd : done.toList[i]'(by simpa using hlt) = false := by
        simp [hlt] at h0
        simpa using h0
      have hcs : ∀ (l : List Bool) (k : Nat) (hk : k < l.length), l[k] = false → (l.set k true).count false + 1 = l.count false := by
        intro l
        induction l with
        | nil => intro k hk; simp at hk
        | cons b l ihl =>
          intro k hk h
          cases k with
          | zero => simp at h; subst h; simp
          | succ k =>
            have := ihl k (by simpa using hk) (by simpa using h)
            simp only [List.set_cons_succ, List.count_cons]
            omega
      have := hcs done.toList i (by simpa using hlt) hd
      simp only [Array.toList_setIfInBounds]
      omega
    · have e : dn (done.setIfInBounds i true) = fun j => decide (j = i) || dn done j := funext fun j => dn_set hlt
      rw [e]
      exact hI'

end
end Go.Proofs.YtnddpalngjmhnaaDoor
