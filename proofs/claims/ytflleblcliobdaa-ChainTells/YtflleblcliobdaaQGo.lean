/-
  Scopes with many labels.
-/
import Derived.Test.YtflleblcliobdaaRows
import Derived.WalkKit
import Derived.ScopeJumps
namespace Go.Proofs.Ytflleblcliobdaa
open Go.RowKit

/-- By a goto: what is asked at its label. -/
def Exit.jumps (J : Nat → Act → World → Prop) (Q : Exit → Act → World → Prop) : Exit → Act → World → Prop
  | .goto l, a, w => J l a w
  | e, a, w => Q e a w
/-- The way from a label on. -/
def From (P : Program) (c : Code) (Q : Exit → Act → World → Prop) (l : Nat) (a : Act) (w : World) : Prop := ∃ rest, findLabel c l = some (Code.skip.seq rest) ∧ rest.wp P Q a w
theorem From.use {P : Program} {c rest : Code} {Q : Exit → Act → World → Prop} {l : Nat} {a : Act} {w : World} (h : From P c Q l a w) (hf : findLabel c l = some (Code.skip.seq rest)) : rest.wp P Q a w := by
  obtain ⟨r, hr, hw⟩ := h
  rw [hf] at hr
  cases hr
  exact hw
theorem Exit.jumps_mono {J K : Nat → Act → World → Prop} {Q : Exit → Act → World → Prop} (h : ∀ l a w, J l a w → K l a w) (e : Exit) (a : Act) (w : World) (hq : Exit.jumps J Q e a w) : Exit.jumps K Q e a w := by
  cases e <;> first | exact hq | exact h _ _ _ hq
/-- A scope of many labels: the way from each label on is walked once; who comes to another label, by a goto or by falling on it, shows what holds there, with a smaller measure. -/
theorem wp_scope_all {P : Program} {a : Act} {w : World} {Q : Exit → Act → World → Prop} {c : Code} (J : Nat → Nat → Act → World → Prop)
    (pass : ∀ m l a w, J m l a w → (∀ m' l' a' w', m' < m → J m' l' a' w' → From P c (Exit.jumps (fun l'' a'' w'' => ∃ m'', m'' < m ∧ J m'' l'' a'' w'') Q) l' a' w') → From P c (Exit.jumps (fun l' a' w' => ∃ m', m' < m ∧ J m' l' a' w') Q) l a w)
    (first : (∀ m l a w, J m l a w → From P c (Exit.jumps (fun l' a' w' => ∃ m', J m' l' a' w') Q) l a w) → c.wp P (Exit.jumps (fun l' a' w' => ∃ m', J m' l' a' w') Q) a w) : (Code.scope c).wp P Q a w := by
  have all : ∀ m l a w, J m l a w → From P c (Exit.jumps (fun l' a' w' => ∃ m', m' < m ∧ J m' l' a' w') Q) l a w := by
    intro m
    induction m using Nat.strongRecOn with
    | _ m ih =>
      intro l a w hJ
      refine pass m l a w hJ fun m' l' a' w' hm hJ' => ?_
      obtain ⟨r, hr, hw⟩ := ih m' hm l' a' w' hJ'
      exact ⟨r, hr, wp_mono hw (Exit.jumps_mono fun _ _ _ ⟨m'', h1, h2⟩ => ⟨m'', by omega, h2⟩)⟩
  intro b k cs
  have key : ∀ m l a w, J m l a w → ∃ rest, findLabel c l = some rest ∧ ∃ e a' w', Q e a' w' ∧ Arrives P (lone (b.at a (.code rest :: .inScope c :: k)) cs w) b k cs e a' w' := by
    intro m
    induction m using Nat.strongRecOn with
    | _ m ih =>
      intro l a w hJ
      obtain ⟨r, hr, hw⟩ := all m l a w hJ
      refine ⟨_, hr, ?_⟩
      obtain ⟨e, a₁, w₁, hq, harr⟩ := (wp_seq (wp_skip hw) : (Code.skip.seq r).wp P _ a w) b (.inScope c :: k) cs
      cases e with
      | normal => exact ⟨.normal, a₁, w₁, hq, Steps.trans harr (.one step_inScope)⟩
      | exit id => exact ⟨.exit id, a₁, w₁, hq, fun k' hk => harr k' (by simp [exitTo, hk])⟩
      | goto l' =>
        obtain ⟨m', hm, hJ'⟩ := hq
        obtain ⟨r', hr', e₂, a₂, w₂, hq₂, harr₂⟩ := ih m' hm l' a₁ w₁ hJ'
        have hg : gotoIn l' (.inScope c :: k) = some (.code r' :: .inScope c :: k) := by simp [gotoIn, hr']
        exact ⟨e₂, a₂, w₂, hq₂, .of_steps (harr _ hg) harr₂⟩
      | ret => exact ⟨_, a₁, w₁, hq, harr⟩
      | panic ch => exact ⟨_, a₁, w₁, hq, harr⟩
      | outgrown => exact ⟨_, a₁, w₁, hq, harr⟩
  have weak : ∀ m l a w, J m l a w → From P c (Exit.jumps (fun l' a' w' => ∃ m', J m' l' a' w') Q) l a w := by
    intro m l a w hJ
    obtain ⟨r, hr, hw⟩ := all m l a w hJ
    exact ⟨r, hr, wp_mono hw (Exit.jumps_mono fun _ _ _ ⟨m'', _, h2⟩ => ⟨m'', h2⟩)⟩
  obtain ⟨e, a₁, w₁, hq, harr⟩ := first weak b (.inScope c :: k) cs
  cases e with
  | normal => exact ⟨.normal, a₁, w₁, hq, .head step_scope (Steps.trans harr (.one step_inScope))⟩
  | exit id => exact ⟨.exit id, a₁, w₁, hq, fun k' hk => .head step_scope (harr k' (by simp [exitTo, hk]))⟩
  | goto l' =>
    obtain ⟨m', hJ'⟩ := hq
    obtain ⟨r', hr', e₂, a₂, w₂, hq₂, harr₂⟩ := key m' l' a₁ w₁ hJ'
    have hg : gotoIn l' (.inScope c :: k) = some (.code r' :: .inScope c :: k) := by simp [gotoIn, hr']
    exact ⟨e₂, a₂, w₂, hq₂, .of_steps (.head step_scope (harr _ hg)) harr₂⟩
  | ret => exact ⟨_, a₁, w₁, hq, .of_steps (.one step_scope) harr⟩
  | panic ch => exact ⟨_, a₁, w₁, hq, .of_steps (.one step_scope) harr⟩
  | outgrown => exact ⟨_, a₁, w₁, hq, .of_steps (.one step_scope) harr⟩

end Go.Proofs.Ytflleblcliobdaa
