/-
  Scopes with many labels; the small functions of package guard.
-/
import Derived.Test.YtnddpalngjmhnaaDoorQPlain
import Derived.ScopeJumps
namespace Go.Proofs.YtnddpalngjmhnaaDoor
open Go.RowKit

/-- By a goto: what is asked at its label. -/
def Exit.jumps (J : Nat → Act → World → Prop) (Q : Exit → Act → World → Prop) : Exit → Act → World → Prop
  | .goto l, a, w => J l a w
  | e, a, w => Q e a w
/-- The way from a label on. -/
def From (P : Program) (c : Code) (Q : Exit → Act → World → Prop) (l : Nat) (a : Act) (w : World) : Prop := ∃ rest, findLabel c l = some (Code.skip.seq rest) ∧ rest.wp P Q a w
theorem From.use {P : Program} {c rest : Code} {Q : Exit → Act → World → Prop} {l : Nat} {a : Act} {w : World} (h : From P c Q l a w) (hf : findLabel c l = some (Code.skip.seq rest)) : rest.wp P Q a w := by
  obtain ⟨r, hr, hw⟩ := h
  rw [hf] at hr
  cases hr
  exact hw
theorem Exit.jumps_mono {J K : Nat → Act → World → Prop} {Q : Exit → Act → World → Prop} (h : ∀ l a w, J l a w → K l a w) (e : Exit) (a : Act) (w : World) (hq : Exit.jumps J Q e a w) : Exit.jumps K Q e a w := by
  cases e <;> first | exact hq | exact h _ _ _ hq
/-- A scope of many labels: the way from each label on is walked once; who comes to another label, by a goto or by falling on it, shows what holds there, with a smaller measure. -/
theorem wp_scope_all {P : Program} {a : Act} {w : World} {Q : Exit → Act → World → Prop} {c : Code} (J : Nat → Nat → Act → World → Prop)
    (pass : ∀ m l a w, J m l a w → (∀ m' l' a' w', m' < m → J m' l' a' w' → From P c (Exit.jumps (fun l'' a'' w'' => ∃ m'', m'' < m ∧ J m'' l'' a'' w'') Q) l' a' w') → From P c (Exit.jumps (fun l' a' w' => ∃ m', m' < m ∧ J m' l' a' w') Q) l a w)
    (first : (∀ m l a w, J m l a w → From P c (Exit.jumps (fun l' a' w' => ∃ m', J m' l' a' w') Q) l a w) → c.wp P (Exit.jumps (fun l' a' w' => ∃ m', J m' l' a' w') Q) a w) : (Code.scope c).wp P Q a w := by
  have all : ∀ m l a w, J m l a w → From P c (Exit.jumps (fun l' a' w' => ∃ m', m' < m ∧ J m' l' a' w') Q) l a w := by
    intro m
    induction m using Nat.strongRecOn with
    | _ m ih =>
      intro l a w hJ
      refine pass m l a w hJ fun m' l' a' w' hm hJ' => ?_
      obtain ⟨r, hr, hw⟩ := ih m' hm l' a' w' hJ'
      exact ⟨r, hr, wp_mono hw (Exit.jumps_mono fun _ _ _ ⟨m'', h1, h2⟩ => ⟨m'', by omega, h2⟩)⟩
  intro b k cs
  have key : ∀ m l a w, J m l a w → ∃ rest, findLabel c l = some rest ∧ ∃ e a' w', Q e a' w' ∧ Arrives P (lone (b.at a (.code rest :: .inScope c :: k)) cs w) b k cs e a' w' := by
    intro m
    induction m using Nat.strongRecOn with
    | _ m ih =>
      intro l a w hJ
      obtain ⟨r, hr, hw⟩ := all m l a w hJ
      refine ⟨_, hr, ?_⟩
      obtain ⟨e, a₁, w₁, hq, harr⟩ := (wp_seq (wp_skip hw) : (Code.skip.seq r).wp P _ a w) b (.inScope c :: k) cs
      cases e with
      | normal => exact ⟨.normal, a₁, w₁, hq, Steps.trans harr (.one step_inScope)⟩
      | exit id => exact ⟨.exit id, a₁, w₁, hq, fun k' hk => harr k' (by simp [exitTo, hk])⟩
      | goto l' =>
        obtain ⟨m', hm, hJ'⟩ := hq
        obtain ⟨r', hr', e₂, a₂, w₂, hq₂, harr₂⟩ := ih m' hm l' a₁ w₁ hJ'
        have hg : gotoIn l' (.inScope c :: k) = some (.code r' :: .inScope c :: k) := by simp [gotoIn, hr']
        exact ⟨e₂, a₂, w₂, hq₂, .of_steps (harr _ hg) harr₂⟩
      | ret => exact ⟨_, a₁, w₁, hq, harr⟩
      | panic ch => exact ⟨_, a₁, w₁, hq, harr⟩
      | outgrown => exact ⟨_, a₁, w₁, hq, harr⟩
  have weak : ∀ m l a w, J m l a w → From P c (Exit.jumps (fun l' a' w' => ∃ m', J m' l' a' w') Q) l a w := by
    intro m l a w hJ
    obtain ⟨r, hr, hw⟩ := all m l a w hJ
    exact ⟨r, hr, wp_mono hw (Exit.jumps_mono fun _ _ _ ⟨m'', _, h2⟩ => ⟨m'', h2⟩)⟩
  obtain ⟨e, a₁, w₁, hq, harr⟩ := first weak b (.inScope c :: k) cs
  cases e with
  | normal => exact ⟨.normal, a₁, w₁, hq, .head step_scope (Steps.trans harr (.one step_inScope))⟩
  | exit id => exact ⟨.exit id, a₁, w₁, hq, fun k' hk => .head step_scope (harr k' (by simp [exitTo, hk]))⟩
  | goto l' =>
    obtain ⟨m', hJ'⟩ := hq
    obtain ⟨r', hr', e₂, a₂, w₂, hq₂, harr₂⟩ := key m' l' a₁ w₁ hJ'
    have hg : gotoIn l' (.inScope c :: k) = some (.code r' :: .inScope c :: k) := by simp [gotoIn, hr']
    exact ⟨e₂, a₂, w₂, hq₂, .of_steps (.head step_scope (harr _ hg)) harr₂⟩
  | ret => exact ⟨_, a₁, w₁, hq, .of_steps (.one step_scope) harr⟩
  | panic ch => exact ⟨_, a₁, w₁, hq, .of_steps (.one step_scope) harr⟩
  | outgrown => exact ⟨_, a₁, w₁, hq, .of_steps (.one step_scope) harr⟩

set_option maxHeartbeats 400000 in
theorem isLetter_any {w : World} (c : UInt8) :
    Calls Tryd.prog 92 #[.int .u8 (c.toNat : Nat)] w fun e w' => e = .returned (.bool (isL c)) ∧ w' = w := by
  unfold isL
  by_cases h1 : 97 ≤ c.toNat
  · have g1 : (97 : Int) ≤ (c.toNat : Int) := by omega
    by_cases h2 : c.toNat ≤ 122
    · have g2 : (c.toNat : Int) ≤ 122 := by omega
      rw [decide_eq_true h1, decide_eq_true h2]
      go_enter Tryd.func92, Tryd.ntmps92
      go_wp2
      go_ret
      exact ⟨rfl, rfl⟩
    · have g2 : ¬ (c.toNat : Int) ≤ 122 := by omega
      rw [decide_eq_true h1, decide_eq_false h2]
      go_enter Tryd.func92, Tryd.ntmps92
      go_wp2
      go_ret
      exact ⟨rfl, rfl⟩
  · have g1 : ¬ (97 : Int) ≤ (c.toNat : Int) := by omega
    rw [decide_eq_false h1, Bool.false_and]
    go_enter Tryd.func92, Tryd.ntmps92
    go_wp2
    go_ret
    exact ⟨rfl, rfl⟩

set_option maxHeartbeats 400000 in
theorem isDigit_any {w : World} (c : UInt8) :
    Calls Tryd.prog 93 #[.int .u8 (c.toNat : Nat)] w fun e w' => e = .returned (.bool (isD c)) ∧ w' = w := by
  unfold isD
  by_cases h1 : 48 ≤ c.toNat
  · have g1 : (48 : Int) ≤ (c.toNat : Int) := by omega
    by_cases h2 : c.toNat ≤ 57
    · have g2 : (c.toNat : Int) ≤ 57 := by omega
      rw [decide_eq_true h1, decide_eq_true h2]
      go_enter Tryd.func93, Tryd.ntmps93
      go_wp2
      go_ret
      exact ⟨rfl, rfl⟩
    · have g2 : ¬ (c.toNat : Int) ≤ 57 := by omega
      rw [decide_eq_true h1, decide_eq_false h2]
      go_enter Tryd.func93, Tryd.ntmps93
      go_wp2
      go_ret
      exact ⟨rfl, rfl⟩
  · have g1 : ¬ (48 : Int) ≤ (c.toNat : Int) := by omega
    rw [decide_eq_false h1, Bool.false_and]
    go_enter Tryd.func93, Tryd.ntmps93
    go_wp2
    go_ret
    exact ⟨rfl, rfl⟩

/-- Each word that Go's text spells out, and all others. -/
def spellings : List (List UInt8) := [[110, 111, 116], [97, 110, 100], [111, 114], [108, 116], [101, 113], [97, 100, 100], [115, 117, 98], [116, 121, 112, 101], [97, 116, 116, 114], [115, 116, 97, 103, 101], [109, 97, 114, 107]]

set_option maxHeartbeats 1000000 in
theorem spelt_known {w : World} (x : List UInt8) (h : x ∈ spellings) :
    Calls Tryd.prog 94 #[.string ⟨x.toArray⟩] w fun e w' => e = .returned (.int .i64 (kd x : Nat)) ∧ w' = w := by
  simp only [spellings, List.mem_cons, List.not_mem_nil, or_false] at h
  rcases h with rfl | rfl | rfl | rfl | rfl | rfl | rfl | rfl | rfl | rfl | rfl
  all_goals
    go_enter Tryd.func94, Tryd.ntmps94
    go_wp2
    go_ret
    exact ⟨rfl, rfl⟩

theorem kd_letters {x : List UInt8} (h : x.all isL = true) (h0 : x ≠ []) (hx : x ∉ spellings) : kd x = if x.length ≤ 12 then 3 else 1 := by
  have h1 : opOf x = 0 := by
    simp only [spellings, List.mem_cons, List.not_mem_nil, or_false, not_or] at hx
    simp [opOf, hx]
  have h2 : isT x = false := by
    simp only [spellings, List.mem_cons, List.not_mem_nil, or_false, not_or] at hx
    simp [isT, hx]
  have h3 := letters_num h h0
  have h4 : 1 ≤ x.length := by
    cases x with
    | nil => exact absurd rfl h0
    | cons c r => simp
  simp [kd, h1, h3, isName, h, h2, h4]

set_option maxHeartbeats 1000000 in
theorem spelt_any {w : World} (x : List UInt8) (h : x.all isL = true) (h0 : x ≠ []) :
    Calls Tryd.prog 94 #[.string ⟨x.toArray⟩] w fun e w' => e = .returned (.int .i64 (kd x : Nat)) ∧ w' = w := by
  by_cases hx : x ∈ spellings
  · exact spelt_known x hx
  · rw [kd_letters h h0 hx]
    simp only [spellings, List.mem_cons, List.not_mem_nil, or_false, not_or] at hx
    obtain ⟨n1, n2, n3, n4, n5, n6, n7, n8, n9, n10, n11⟩ := hx
    replace n1 := beq_eq_false_iff_ne.2 n1
    replace n2 := beq_eq_false_iff_ne.2 n2
    replace n3 := beq_eq_false_iff_ne.2 n3
    replace n4 := beq_eq_false_iff_ne.2 n4
    replace n5 := beq_eq_false_iff_ne.2 n5
    replace n6 := beq_eq_false_iff_ne.2 n6
    replace n7 := beq_eq_false_iff_ne.2 n7
    replace n8 := beq_eq_false_iff_ne.2 n8
    replace n9 := beq_eq_false_iff_ne.2 n9
    replace n10 := beq_eq_false_iff_ne.2 n10
    replace n11 := beq_eq_false_iff_ne.2 n11
    clear h h0
    by_cases hl : x.length ≤ 12
    · have hl' : ¬ (12 : Int) < (x.length : Int) := by omega
      rw [if_pos hl]
      go_enter Tryd.func94, Tryd.ntmps94
      go_wp2
      go_ret
      exact ⟨rfl, rfl⟩
    · have hl' : (12 : Int) < (x.length : Int) := by omega
      rw [if_neg hl]
      go_enter Tryd.func94, Tryd.ntmps94
      go_wp2
      go_ret
      exact ⟨rfl, rfl⟩

set_option maxHeartbeats 1000000 in
theorem parts_any {w : World} (k : Nat) (h : k ≤ 10) :
    Calls Tryd.prog 91 #[.int .i64 (k : Nat)] w fun e w' => e = .returned (.int .i64 (ar k : Nat)) ∧ w' = w := by
  have hk : k = 0 ∨ k = 1 ∨ k = 2 ∨ k = 3 ∨ k = 4 ∨ k = 5 ∨ k = 6 ∨ k = 7 ∨ k = 8 ∨ k = 9 ∨ k = 10 := by omega
  rcases hk with rfl | rfl | rfl | rfl | rfl | rfl | rfl | rfl | rfl | rfl | rfl
  all_goals
    go_enter Tryd.func91, Tryd.ntmps91
    go_wp2
    go_ret
    exact ⟨rfl, rfl⟩

/-- 1 or 0. -/
def tr (b : Bool) : Int := if b = true then 1 else 0
set_option maxHeartbeats 400000 in
theorem truth_any {w : World} (b : Bool) :
    Calls Tryd.prog 84 #[.bool b] w fun e w' => e = .returned (.int .i64 (tr b)) ∧ w' = w := by
  cases b
  all_goals
    go_enter Tryd.func84, Tryd.ntmps84
    go_wp2
    go_ret
    exact ⟨rfl, rfl⟩

end Go.Proofs.YtnddpalngjmhnaaDoor
