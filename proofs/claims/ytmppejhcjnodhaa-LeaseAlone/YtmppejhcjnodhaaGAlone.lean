/-
  Leases, plainly: of two who ask three granters never both may answer alone at one time.
-/
import Derived.Test.YtmppejhcjnodhaaG2
import Derived.Test.YtmppejhcjnodhaaGSafe
namespace Go.Proofs.Ytmppejhcjnodhaa

/-- The granters; when each of two asked (and one more), who granted it since (bits), up to when it may answer. -/
structure St where
  g : Nat → Ga
  asked : Nat → Int
  got : Nat → Nat
  til : Nat → Int
def St.new : St := ⟨fun _ => Ga.none, fun _ => 0, fun _ => 0, fun _ => 0⟩
/-- Another thing at k. -/
def put {α : Type} (f : Nat → α) (k : Nat) (y : α) : Nat → α := fun i => if i = k then y else f i
theorem put_same {α : Type} (f : Nat → α) (k : Nat) (y : α) : put f k y k = y := if_pos rfl
theorem put_other {α : Type} (f : Nat → α) {k i : Nat} (y : α) (h : i ≠ k) : put f k y i = f i := if_neg h

/-- Granter n bars for k, since it granted what k asked at a. -/
def Held (rate : Nat → Int) (s : St) (k n : Nat) (a : Int) : Prop := (s.g n).whom = 1 ∧ (s.g n).node = (k : Int) ∧ a * rate (2 + n) + 40000 ≤ (s.g n).til
/-- What k asked at a is over. -/
def Over (rate : Nat → Int) (r now a : Int) (k : Nat) : Prop := a * rate k + share 40000 r ≤ now * rate k

structure Inv (r : Int) (rate : Nat → Int) (now : Int) (s : St) : Prop where
  now0 : 0 ≤ now
  asked : ∀ k, 0 ≤ s.asked k ∧ s.asked k ≤ now + 1
  got : ∀ k, s.got k < 8
  none : ∀ k, s.asked k = 0 → s.got k = 0
  bits : ∀ k n, n < 3 → (s.got k).testBit n = true → Held rate s k n (s.asked k - 1) ∨ Over rate r now (s.asked k - 1) k
  til : ∀ k, s.til k ≤ now * rate k ∨ ∃ a, a ≤ now ∧ s.til k ≤ a * rate k + share 40000 r ∧ ∃ n m, n < m ∧ m < 3 ∧ Held rate s k n a ∧ Held rate s k m a

/-- Rates within the drift. -/
def Rates (r : Int) (rate : Nat → Int) : Prop := ∀ i, 1000 - r ≤ rate i ∧ rate i ≤ 1000 + r

theorem Inv.start (r : Int) (rate : Nat → Int) : Inv r rate 0 St.new :=
  ⟨Int.le_refl _, fun _ => ⟨Int.le_refl _, (by decide : (0 : Int) ≤ 0 + 1)⟩, fun _ => (by decide : 0 < 8), fun _ _ => rfl, fun _ _ _ h => by simp [St.new] at h, fun k => .inl (by simp [St.new])⟩

theorem later {r : Int} {rate : Nat → Int} (hr : Dr r) (hR : Rates r rate) {now now' : Int} (h : now ≤ now') (k : Nat) : now * rate k ≤ now' * rate k := by
  have := hR k
  have := hr.2
  exact Int.mul_le_mul_of_nonneg_right h (by omega)

theorem Inv.later {r : Int} {rate : Nat → Int} {now now' : Int} {s : St} (h : Inv r rate now s) (hr : Dr r) (hR : Rates r rate) (hn : now ≤ now') : Inv r rate now' s := by
  refine ⟨by have := h.now0; omega, fun k => ?_, h.got, h.none, fun k n hn3 hb => ?_, fun k => ?_⟩
  · have := h.asked k
    omega
  · rcases h.bits k n hn3 hb with e | e
    · exact .inl e
    · refine .inr ?_
      have := Proofs.Ytmppejhcjnodhaa.later hr hR hn k
      unfold Over at *
      omega
  · have hl := Proofs.Ytmppejhcjnodhaa.later hr hR hn k
    rcases h.til k with e | ⟨a, ha, e⟩
    · exact .inl (by omega)
    · exact .inr ⟨a, by omega, e⟩

/-- A new asking. -/
theorem Inv.ask {r : Int} {rate : Nat → Int} {now : Int} {s : St} (h : Inv r rate now s) (k : Nat) : Inv r rate now ⟨s.g, put s.asked k (now + 1), put s.got k 0, s.til⟩ := by
  refine ⟨h.now0, fun j => ?_, fun j => ?_, fun j e => ?_, fun j n hn hb => ?_, h.til⟩
  · by_cases e : j = k
    · subst e
      have := h.now0
      simp only [put_same]
      omega
    · simp only [put_other _ _ e]
      exact h.asked j
  · by_cases e : j = k
    · subst e
      simp [put_same]
    · simp only [put_other _ _ e]
      exact h.got j
  · by_cases e' : j = k
    · subst e'
      exact put_same _ _ _
    · simp only [put_other _ _ e'] at e ⊢
      exact h.none j e
  · by_cases e : j = k
    · subst e
      simp [put_same] at hb
    · simp only [put_other _ _ e] at hb ⊢
      exact h.bits j n hn hb

/-- Whom a granter no longer bars for, its lease is over. -/
theorem over_of {r : Int} {rate : Nat → Int} (hr : Dr r) (hR : Rates r rate) {now a : Int} {n k : Nat} (ha : a ≤ now) (h : a * rate (2 + n) + 40000 ≤ now * rate (2 + n)) : Over rate r now a k := by
  unfold Over
  refine Classical.byContradiction fun hc => ?_
  have e := share_lt (d := now - a) (len := 40000) (one := rate k) hr (hR k).1 (by omega) (by rw [Int.sub_mul]; omega)
  have e1 : (now - a) * rate (2 + n) ≤ (now - a) * (1000 + r) := Int.mul_le_mul_of_nonneg_left (hR (2 + n)).2 (by omega)
  rw [Int.sub_mul] at e1
  omega

theorem or_bit (M k j : Nat) : (M ||| 2 ^ k).testBit j = (decide (j = k) || M.testBit j) := by
  rw [Nat.testBit_or, Nat.testBit_two_pow]
  by_cases h : j = k
  · simp [h]
  · simp [h, Ne.symm h]
theorem or_lt : ∀ M : Nat, M < 8 → ∀ n : Nat, n < 3 → M ||| 2 ^ n < 8 := by decide +kernel

/-- A granter grants. -/
theorem Inv.grant {r : Int} {rate : Nat → Int} {now : Int} {s : St} (h : Inv r rate now s) (hr : Dr r) (hR : Rates r rate) {k n : Nat} (hn : n < 3) (hk : 1 ≤ s.asked k) (hm : (s.g n).may (k : Int) (now * rate (2 + n)) 40000) :
    Inv r rate now ⟨put s.g n ((s.g n).on 1 (k : Int) (now * rate (2 + n) + 40000)), s.asked, put s.got k (s.got k ||| 2 ^ n), s.til⟩ := by
  have hb := hm.2.2
  -- what was held is held, or over
  have key : ∀ j m a, a ≤ now → Held rate s j m a → Held rate ⟨put s.g n ((s.g n).on 1 (k : Int) (now * rate (2 + n) + 40000)), s.asked, put s.got k (s.got k ||| 2 ^ n), s.til⟩ j m a ∨ Over rate r now a j := by
    intro j m a ha hH
    by_cases e : m = n
    · subst e
      by_cases ej : j = k
      · subst ej
        refine .inl ⟨?_, ?_, ?_⟩
        · simp only [put_same]; rfl
        · simp only [put_same]; rfl
        · simp only [put_same, Ga.on]
          have := hH.2.2
          split <;> omega
      · refine .inr (over_of hr hR (n := m) ha ?_)
        have h1 : ¬ now * rate (2 + m) < (s.g m).til := fun hlt => hb ⟨.inl ⟨hH.1, fun e => ej (by have := hH.2.1; omega)⟩, hlt⟩
        have := hH.2.2
        omega
    · refine .inl ⟨?_, ?_, ?_⟩
      · simp only [put_other _ _ e]; exact hH.1
      · simp only [put_other _ _ e]; exact hH.2.1
      · simp only [put_other _ _ e]; exact hH.2.2
  refine ⟨h.now0, h.asked, fun j => ?_, fun j e => ?_, fun j m hm3 hbit => ?_, fun j => ?_⟩
  · by_cases e : j = k
    · subst e
      simp only [put_same]
      exact or_lt _ (h.got j) n hn
    · simp only [put_other _ _ e]
      exact h.got j
  · by_cases e' : j = k
    · subst e'
      simp only at e
      omega
    · simp only [put_other _ _ e']
      exact h.none j e
  · have ha : s.asked j - 1 ≤ now := by have := h.asked j; omega
    by_cases e : j = k
    · subst e
      simp only [put_same] at hbit
      rw [or_bit] at hbit
      by_cases em : m = n
      · subst em
        refine .inl ⟨?_, ?_, ?_⟩
        · simp only [put_same]; rfl
        · simp only [put_same]; rfl
        · simp only [put_same, Ga.on]
          have := Proofs.Ytmppejhcjnodhaa.later hr hR ha (2 + m)
          split <;> omega
      · rcases h.bits j m hm3 (by simpa [em] using hbit) with e | e
        · exact key j m _ ha e
        · exact .inr e
    · simp only [put_other _ _ e] at hbit
      rcases h.bits j m hm3 hbit with e | e
      · exact key j m _ ha e
      · exact .inr e
  · rcases h.til j with e | ⟨a, ha, ht, n1, m1, h1, h2, e1, e2⟩
    · exact .inl e
    · rcases key j n1 a ha e1 with q1 | q1
      · rcases key j m1 a ha e2 with q2 | q2
        · exact .inr ⟨a, ha, ht, n1, m1, h1, h2, q1, q2⟩
        · exact .inl (Int.le_trans ht q2)
      · exact .inl (Int.le_trans ht q1)

/-- More than half have granted. -/
abbrev Maj (M : Nat) : Prop := M = 3 ∨ M = 5 ∨ M = 6 ∨ M = 7
theorem maj_bits : ∀ M : Nat, M < 8 → Maj M → ∃ m, m < 3 ∧ ∃ n, n < m ∧ M.testBit n = true ∧ M.testBit m = true := by decide +kernel

theorem Inv.holds {r : Int} {rate : Nat → Int} {now : Int} {s : St} (h : Inv r rate now s) {k : Nat} (hm : Maj (s.got k)) : Inv r rate now ⟨s.g, s.asked, s.got, put s.til k ((s.asked k - 1) * rate k + share 40000 r)⟩ := by
  refine ⟨h.now0, h.asked, h.got, h.none, h.bits, fun j => ?_⟩
  by_cases e : j = k
  · subst e
    simp only [put_same]
    obtain ⟨m, hm3, n, hnm, b1, b2⟩ := maj_bits _ (h.got j) hm
    rcases h.bits j n (by omega) b1 with q1 | q1
    · rcases h.bits j m hm3 b2 with q2 | q2
      · exact .inr ⟨_, by have := h.asked j; omega, Int.le_refl _, n, m, hnm, hm3, q1, q2⟩
      · exact .inl q2
    · exact .inl q1
  · simp only [put_other _ _ e]
    exact h.til j

/-- Never both. -/
theorem Inv.alone {r : Int} {rate : Nat → Int} {now : Int} {s : St} (h : Inv r rate now s) : ¬ (now * rate 0 < s.til 0 ∧ now * rate 1 < s.til 1) := by
  rintro ⟨h0, h1⟩
  rcases h.til 0 with e | ⟨a, _, _, n, m, nm, m3, p1, p2⟩
  · omega
  rcases h.til 1 with e | ⟨b, _, _, n', m', nm', m3', q1, q2⟩
  · omega
  have no : ∀ x, Held rate s 0 x a → Held rate s 1 x b → False := by
    intro x hx hy
    have := hx.2.1
    have := hy.2.1
    omega
  have c : n = n' ∨ n = m' ∨ m = n' ∨ m = m' := by omega
  rcases c with e | e | e | e
  · subst e; exact no _ p1 q1
  · subst e; exact no _ p1 q2
  · subst e; exact no _ p2 q1
  · subst e; exact no _ p2 q2

end Go.Proofs.Ytmppejhcjnodhaa
