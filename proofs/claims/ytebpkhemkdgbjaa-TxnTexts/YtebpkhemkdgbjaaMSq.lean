/-
  Split: the program's, its first loop.
-/
import Derived.Test.YtebpkhemkdgbjaaMSp
import Derived.Test.YtebpkhemkdgbjaaMBx
namespace Go.Proofs.Ytebpkhemkdgbjaa
open Go.RowKit

theorem Its.ne {w : World} {base : Nat} {v : Value} {ns : List Nat} (h : Its w base v ns) {B : Nat} {cs : Array Value} {t : TypeId} {fr : Nat × Nat} (hB : w.heap[B]? = some (.cells cs t fr)) (ht : t ≠ 3) : v.ownBlock ≠ some B := by
  intro q
  rcases h.2 with ⟨hv, _⟩ | ⟨g, cap, cur, hv, _, hh, _⟩
  · rw [hv] at q; simp [Value.ownBlock] at q
  · rw [hv] at q; simp [Value.ownBlock] at q
    subst q
    rw [hB] at hh
    simp at hh
    exact ht hh.2.1
theorem Its.ge {w : World} {base : Nat} {v : Value} {ns : List Nat} (h : Its w base v ns) {k : Nat} (hk : v.ownBlock = some k) : base ≤ k := (World.ownsRow.lt h k hk).1
theorem Its.lt {w : World} {base : Nat} {v : Value} {ns : List Nat} (h : Its w base v ns) {k : Nat} (hk : v.ownBlock = some k) : k < w.heap.size := (World.ownsRow.lt h k hk).2
theorem Its.all {w w' : World} {base : Nat} {v : Value} {ns : List Nat} (h : Its w base v ns) (k : Kept (fun _ => True) w w') : Its w' base v ns := h.kept k (fun _ _ => trivial)

theorem wpList_append_it {w : World} {ops : Array Oper} {rest : List Oper} {o : Oper} {a : Act} {Q : Exit → Act → World → Prop} (hgd : o.guard = none) (sl y : Operand) (ho : o.op = .call { callee := .builtin .append, args := #[sl, y], argTypes := #[39, 39] })
    (base : Nat) (v : Value) (ns : List Nat) (hs : a.eval sl = v) (h : Its w base v ns) (hb : base ≤ w.heap.size) (G : Nat) (hy : a.eval y = .slice (some ⟨G, 0, none⟩) 1 1) (n : Nat) (fr : Nat × Nat) (hG : w.heap[G]? = some (.cells #[.int .i64 (n : Nat)] 3 fr)) (hm : ns.length ≤ 1000000)
    (hK : ∀ ao' cap' w', Its w' base (.slice ao' (ns.length + 1) cap') (ns ++ [n]) → w.grownBy w' v.ownBlock → ((Value.slice ao' (ns.length + 1) cap').ownBlock = v.ownBlock ∨ (Value.slice ao' (ns.length + 1) cap').ownBlock = some w.heap.size) → wpList Try.prog ops Q rest (a.put o.dst (.slice ao' (ns.length + 1) cap')) w') : wpList Try.prog ops Q (o :: rest) a w := by
  refine wpList_plain hgd fun K hK' => ?_
  obtain ⟨i, hi, hz0, hz1, hz2⟩ := info_parts Try.infoInt
  obtain ⟨v', w', hr, h2, h3, _, h5⟩ := run_append_own_at (P := Try.prog) w base 39 o.type 3 i (.int .i64 0) 1 8 Try.underlying39 hi hz0 hz1 hz2 rfl (by decide) v ns.length (irow ns) h ⟨G, 0, none⟩ 1 1 (irow [n]) (by simp [irow]) (World.news_of_block (w := w) hG) (irow_one [n]) (by unfold maxLen; omega) (by omega) hb
  obtain ⟨ao', cap', rfl⟩ := own_shape_row h2
  have h2' : Its w' base (.slice ao' (ns.length + 1) cap') (ns ++ [n]) := by
    unfold Its
    rw [irow_append, List.length_append]
    exact h2
  unfold Oper.wp execOp
  simp only [ho, resolve, invoke, builtin, Sem.run_bind, Sem.run_pure, Result.andThen_ok, List.map_toArray, List.map_cons, List.map_nil, hs, hy, hr]
  exact hK' _ _ (hK ao' cap' w' h2' h3 h5)

/-- Three slices of numbers in an array's variable. -/
structure Al (w0 w : World) (A : Nat) (s : Nat → Value) (L : Nat → List Nat) : Prop where
  self : Af w A 105 3 s
  its : ∀ i, i < 3 → Its w w0.heap.size (s i) (L i)
  apart : ∀ i j x, i < 3 → j < 3 → i ≠ j → (s i).ownBlock = some x → (s j).ownBlock ≠ some x
theorem Al.all {w0 w w' : World} {A : Nat} {s : Nat → Value} {L : Nat → List Nat} (h : Al w0 w A s L) (k : Kept (fun _ => True) w w') : Al w0 w' A s L :=
  ⟨h.self.kept k trivial, fun i hi => (h.its i hi).all k, h.apart⟩
theorem Al.push {w0 w w1 : World} {A : Nat} {s : Nat → Value} {L : Nat → List Nat} (h : Al w0 w A s L) {g : Nat} (hg : g < 3) {v' : Value} {ns : List Nat} (hi : Its w1 w0.heap.size v' ns) (k : Kept (fun x => (s g).ownBlock ≠ some x) w w1) (hat : ∀ x, v'.ownBlock = some x → (s g).ownBlock = some x ∨ w.heap.size ≤ x) :
    Al w0 (w1.setCell ⟨A, g, none⟩ v') A (fun i => if i = g then v' else s i) (fun i => if i = g then ns else L i) := by
  have hA : Af w1 A 105 3 s := h.self.kept k ((h.its g hg).ne h.self (by decide))
  have kA : Kept (· ≠ A) w1 (w1.setCell ⟨A, g, none⟩ v') := (Kept.refl _ _).setCell (by simp) _
  refine ⟨hA.set g v', fun i hi' => ?_, fun i j x hi' hj hij => ?_⟩
  · by_cases e : i = g
    · subst e
      rw [if_pos rfl, if_pos rfl]
      exact hi.kept kA (fun x hx e => hi.ne hA (by decide) (e ▸ hx))
    · rw [if_neg e, if_neg e]
      have h1 := (h.its i hi').kept k (fun x hx => h.apart i g x hi' hg e hx)
      exact h1.kept kA (fun x hx e' => h1.ne hA (by decide) (e' ▸ hx))
  · by_cases ei : i = g
    · subst ei
      rw [if_pos rfl, if_neg (Ne.symm hij)]
      intro hx hy
      rcases hat x hx with q | q
      · exact h.apart i j x hg hj hij q hy
      · have := (h.its j hj).lt hy; omega
    · rw [if_neg ei]
      by_cases ej : j = g
      · subst ej
        rw [if_pos rfl]
        intro hx hy
        rcases hat x hy with q | q
        · exact h.apart i j x hi' hg ei hx q
        · have := (h.its i hi').lt hx; omega
      · rw [if_neg ej]
        exact h.apart i j x hi' hj hij

/-- Whose the case of operation k is. -/
def hof (ps : List Pa) (os : List Oz) (k : Nat) : Int := match os[k]? with | some o => ownH ps (hashOf o.cas) | none => 0
theorem hof_at {ps : List Pa} {os : List Oz} {k : Nat} (hk : k < os.length) : hof ps os k = ownH ps (hashOf os[k].cas) := by simp [hof, hk]
theorem hof_group {ps : List Pa} {os : List Oz} {k : Nat} (hk : k < os.length) (hr : rgtE 0 (-1) ps = true) : ∃ g : Nat, g < 3 ∧ hof ps os k = (g : Int) := by
  rw [hof_at hk]
  have := rgt_gs hr (hashOf os[k].cas) (hashOf_lt _)
  exact ⟨(ownH ps (hashOf os[k].cas)).toNat, by omega, by omega⟩

end Go.Proofs.Ytebpkhemkdgbjaa
