/-
  Guards that are put together, plainly.
-/
import Derived.Test.YtpjfmgmhohpjmaaQ8
namespace Go.Proofs.Ytpjfmgmhohpjmaa
open Go.RowKit

/-- Words that are a whole guard, no deeper than d, ahead of whatever. -/
def Gu (ns : List (List UInt8)) (d : Nat) (xs : List (List UInt8)) : Prop := ∀ f, d < f → ∀ r, gd ns f (xs ++ r) = .inr r
/-- What they are worth. -/
def Va (g : List UInt8 → Int) (d : Nat) (xs : List (List UInt8)) (v : Int) : Prop := ∀ f, d < f → ∀ r, vl g f (xs ++ r) = (v, r)

theorem Gu.leaf (ns : List (List UInt8)) (d : Nat) (x : List UInt8) (h : rf ns x = 0) (ha : ar (kd x) = 0) : Gu ns d [x] := by
  intro f hf r
  obtain ⟨f, rfl⟩ : ∃ f', f = f' + 1 := ⟨f - 1, by omega⟩
  simp [gd, h, ha, times]
theorem Gu.one {ns : List (List UInt8)} {d : Nat} {x : List UInt8} {a : List (List UInt8)} (hk : kd x = 4) (ha : Gu ns d a) : Gu ns (d + 1) (x :: a) := by
  intro f hf r
  obtain ⟨f, rfl⟩ : ∃ f', f = f' + 1 := ⟨f - 1, by omega⟩
  have h0 : rf ns x = 0 := by simp [rf, rfk, hk]
  have h1 : ar (kd x) = 1 := by rw [hk]; rfl
  simp only [List.cons_append, gd, h0, h1, ne_eq, not_true_eq_false, if_false]
  rw [times_succ _ _ _ _ (ha f (by omega) r)]
  rfl
theorem Gu.two {ns : List (List UInt8)} {d : Nat} {x : List UInt8} {a b : List (List UInt8)} (hk : 5 ≤ kd x) (ha : Gu ns d a) (hb : Gu ns d b) : Gu ns (d + 1) (x :: (a ++ b)) := by
  intro f hf r
  obtain ⟨f, rfl⟩ : ∃ f', f = f' + 1 := ⟨f - 1, by omega⟩
  have h0 : rf ns x = 0 := by unfold rf rfk; rw [if_neg (by omega), if_neg (by omega), if_neg (by omega)]
  have h1 : ar (kd x) = 2 := by unfold ar; rw [if_neg (by omega), if_pos hk]
  simp only [List.cons_append, gd, h0, h1, ne_eq, not_true_eq_false, if_false, List.append_assoc]
  rw [times_succ _ _ _ _ (ha f (by omega) (b ++ r)), times_succ _ _ _ _ (hb f (by omega) r)]
  rfl
theorem Va.leaf2 (g : List UInt8 → Int) (d : Nat) (x : List UInt8) (h : kd x = 2) : Va g d [x] (num x) := by
  intro f hf r
  obtain ⟨f, rfl⟩ : ∃ f', f = f' + 1 := ⟨f - 1, by omega⟩
  simp [vl, h]
theorem Va.leaf3 (g : List UInt8 → Int) (d : Nat) (x : List UInt8) (h : kd x = 3) : Va g d [x] (g x) := by
  intro f hf r
  obtain ⟨f, rfl⟩ : ∃ f', f = f' + 1 := ⟨f - 1, by omega⟩
  simp [vl, h]
theorem Va.one {g : List UInt8 → Int} {d : Nat} {x : List UInt8} {a : List (List UInt8)} {v : Int} (hk : kd x = 4) (ha : Va g d a v) : Va g (d + 1) (x :: a) (tr (decide (v = 0))) := by
  intro f hf r
  obtain ⟨f, rfl⟩ : ∃ f', f = f' + 1 := ⟨f - 1, by omega⟩
  simp [vl, hk, ha f (by omega) r]
theorem Va.two {g : List UInt8 → Int} {d : Nat} {x : List UInt8} {a b : List (List UInt8)} {v u : Int} (hk : 5 ≤ kd x) (ha : Va g d a v) (hb : Va g d b u) : Va g (d + 1) (x :: (a ++ b)) (jn (kd x) v u) := by
  intro f hf r
  obtain ⟨f, rfl⟩ : ∃ f', f = f' + 1 := ⟨f - 1, by omega⟩
  simp only [List.cons_append, vl, List.append_assoc]
  rw [if_neg (by omega), if_neg (by omega), if_neg (by omega), ha f (by omega) (b ++ r)]
  simp only [hb f (by omega) r]
theorem Gu.more {ns : List (List UInt8)} {d d' : Nat} {xs : List (List UInt8)} (h : Gu ns d xs) (hd : d ≤ d') : Gu ns d' xs := fun f hf r => h f (by omega) r
theorem Va.more {g : List UInt8 → Int} {d d' : Nat} {xs : List (List UInt8)} {v : Int} (h : Va g d xs v) (hd : d ≤ d') : Va g d' xs v := fun f hf r => h f (by omega) r

/-- How long a text that is made may be. -/
def bd : Nat → Nat
  | 0 => 2
  | d + 1 => 2 * bd d + 5
/-- A text that is a guard of x, y and numbers, no deeper than d. -/
structure Mk (d : Nat) (s : List UInt8) : Prop where
  len : s.length ≤ bd d
  gu : ∀ ns, (∀ x ∈ tx s, kd x = 3 → x ∈ ns) → Gu ns d (tx s)
  va : ∀ g, ∃ v, Va g d (tx s) v
  nm : ∀ x ∈ tx s, kd x = 3 → x = [120] ∨ x = [121]

theorem bd_mono (d : Nat) : 2 ≤ bd d ∧ bd d ≤ bd (d + 1) := by
  refine ⟨?_, by simp only [bd]; omega⟩
  induction d with
  | zero => decide
  | succ d ih => simp only [bd]; omega
theorem Mk.leaf (d : Nat) (x : List UInt8) (hl : x.length ≤ 2) (ht : tx x = [x]) (h : kd x = 2 ∨ (kd x = 3 ∧ (x = [120] ∨ x = [121]))) : Mk d x := by
  refine ⟨Nat.le_trans hl (bd_mono d).1, fun ns hn => ?_, fun g => ?_, fun y hy _ => ?_⟩
  · rw [ht] at hn ⊢
    refine Gu.leaf ns d x ?_ ?_
    · rcases rf_cases ns x with ⟨h1, _⟩ | ⟨h1, h2, _⟩ | ⟨_, _, h3⟩
      · omega
      · exact absurd (hn x (by simp) h1) h2
      · exact h3
    · rcases h with h | ⟨h, _⟩ <;> rw [h] <;> rfl
  · rw [ht]
    rcases h with h | ⟨h, _⟩
    · exact ⟨_, Va.leaf2 g d x h⟩
    · exact ⟨_, Va.leaf3 g d x h⟩
  · rw [ht, List.mem_singleton] at hy
    subst hy
    rcases h with h | ⟨_, h⟩
    · omega
    · exact h
/-- The texts of which guards are made. -/
def leaves : List (List UInt8) := [[120], [121], [49], [45, 50], [48], [55], [120], [121], [51], [48], [49], [50]]
theorem Mk.leaves (d : Nat) (k : Nat) (_ : k < 12) (x : List UInt8) (hx : leaves[k]? = some x) : Mk d x := by
  have h : ∀ x ∈ Go.Proofs.Ytpjfmgmhohpjmaa.leaves, x.length ≤ 2 ∧ tx x = [x] ∧ (kd x = 2 ∨ (kd x = 3 ∧ (x = [120] ∨ x = [121]))) := by decide +kernel
  obtain ⟨h1, h2, h3⟩ := h x (List.mem_of_getElem? hx)
  exact Mk.leaf d x h1 h2 h3
theorem tx_ahead (o a : List UInt8) (ho : tx o = [o]) : tx (o ++ [32] ++ a) = o :: tx a := by
  rw [List.append_assoc]
  show tx (o ++ 32 :: a) = _
  rw [tx_join, ho]
  rfl
theorem tx_ahead2 (o a b : List UInt8) (ho : tx o = [o]) : tx (o ++ [32] ++ a ++ [32] ++ b) = o :: (tx a ++ tx b) := by
  have e : o ++ [32] ++ a ++ [32] ++ b = o ++ 32 :: (a ++ 32 :: b) := by simp
  rw [e, tx_join, tx_join, ho]
  rfl
theorem Mk.one {d : Nat} {a : List UInt8} (h : Mk d a) : Mk (d + 1) ([110, 111, 116] ++ [32] ++ a) := by
  have ho : tx [110, 111, 116] = [[110, 111, 116]] := by decide +kernel
  have hk : kd [110, 111, 116] = 4 := by decide +kernel
  have ht := tx_ahead [110, 111, 116] a ho
  refine ⟨?_, fun ns hn => ?_, fun g => ?_, fun y hy hy3 => ?_⟩
  · have := h.len
    simp [bd]
    omega
  · rw [ht] at hn ⊢
    exact Gu.one hk (h.gu ns fun x hx => hn x (List.mem_cons_of_mem _ hx))
  · obtain ⟨v, hv⟩ := h.va g
    rw [ht]
    exact ⟨_, Va.one hk hv⟩
  · rw [ht] at hy
    rcases List.mem_cons.1 hy with rfl | hy
    · omega
    · exact h.nm y hy hy3
theorem Mk.two {d : Nat} {o a b : List UInt8} (ho : tx o = [o]) (hk : 5 ≤ kd o) (hl : o.length ≤ 3) (h : Mk d a) (h' : Mk d b) : Mk (d + 1) (o ++ [32] ++ a ++ [32] ++ b) := by
  have ht := tx_ahead2 o a b ho
  refine ⟨?_, fun ns hn => ?_, fun g => ?_, fun y hy hy3 => ?_⟩
  · have := h.len
    have := h'.len
    simp [bd]
    omega
  · rw [ht] at hn ⊢
    exact Gu.two hk (h.gu ns fun x hx => hn x (by simp [hx])) (h'.gu ns fun x hx => hn x (by simp [hx]))
  · obtain ⟨v, hv⟩ := h.va g
    obtain ⟨u, hu⟩ := h'.va g
    rw [ht]
    exact ⟨_, Va.two hk hv hu⟩
  · rw [ht] at hy
    rcases List.mem_cons.1 hy with rfl | hy
    · omega
    · rcases List.mem_append.1 hy with hy | hy
      · exact h.nm y hy hy3
      · exact h'.nm y hy hy3
/-- Operations of two. -/
def ops2 : List (List UInt8) := [[97, 110, 100], [111, 114], [108, 116], [101, 113], [97, 100, 100], [115, 117, 98], [97, 110, 100]]
theorem ops2_fine (k : Nat) (x : List UInt8) (hx : ops2[k]? = some x) : tx x = [x] ∧ 5 ≤ kd x ∧ x.length ≤ 3 := by
  have h : ∀ x ∈ ops2, tx x = [x] ∧ 5 ≤ kd x ∧ x.length ≤ 3 := by decide +kernel
  exact h x (List.mem_of_getElem? hx)
theorem Mk.more {d d' : Nat} {s : List UInt8} (h : Mk d s) (hd : d ≤ d') : Mk d' s := by
  have hb : bd d ≤ bd d' := by
    induction hd with
    | refl => exact Nat.le_refl _
    | step _ ih => exact Nat.le_trans ih (bd_mono _).2
  refine ⟨Nat.le_trans h.len hb, fun ns hn => (h.gu ns hn).more hd, fun g => ?_, h.nm⟩
  obtain ⟨v, hv⟩ := h.va g
  exact ⟨v, hv.more hd⟩

/-- What Eval answers of such a text. -/
theorem Mk.evl {d : Nat} {s : List UInt8} (h : Mk d s) (hd : d ≤ 16) (hl : s.length ≤ 120) {ns : List (List UInt8)} {vs : List Int} (hn : ∀ x ∈ tx s, kd x = 3 → x ∈ ns) (hv : ns.length ≤ vs.length) {v : Int} (hV : Va (env ns vs) d (tx s) v) : evl ns vs s = (v, 0) := by
  have h1 := h.gu ns hn 17 (by omega) []
  rw [List.append_nil] at h1
  have h2 := hV 17 (by omega) []
  rw [List.append_nil] at h2
  rw [Go.Proofs.Ytpjfmgmhohpjmaa.evl, if_neg (by rw [chk_gd.2 ⟨hl, h1⟩]; simp), if_neg (by omega), h2]
theorem Mk.chk {d : Nat} {s : List UInt8} (h : Mk d s) (hd : d ≤ 16) (hl : s.length ≤ 120) {ns : List (List UInt8)} (hn : ∀ x ∈ tx s, kd x = 3 → x ∈ ns) : (chk ns s).1 = 0 := by
  have h1 := h.gu ns hn 17 (by omega) []
  rw [List.append_nil] at h1
  exact chk_gd.2 ⟨hl, h1⟩
/-- A guard hangs on the names in it alone. -/
theorem vl_same (g g' : List UInt8 → Int) (f : Nat) (xs : List (List UInt8)) (h : ∀ x ∈ xs, kd x = 3 → g x = g' x) : vl g f xs = vl g' f xs ∧ ∀ x ∈ (vl g f xs).2, x ∈ xs := by
  induction f generalizing xs with
  | zero => exact ⟨rfl, fun x hx => hx⟩
  | succ f ih =>
    cases xs with
    | nil => exact ⟨rfl, fun x hx => hx⟩
    | cons y xs =>
      obtain ⟨e1, m1⟩ := ih xs (fun x hx => h x (List.mem_cons_of_mem _ hx))
      obtain ⟨e2, m2⟩ := ih (vl g f xs).2 (fun x hx => h x (List.mem_cons_of_mem _ (m1 x hx)))
      simp only [vl]
      by_cases h2 : kd y = 2
      · rw [if_pos h2, if_pos h2]
        exact ⟨rfl, fun x hx => List.mem_cons_of_mem _ hx⟩
      · rw [if_neg h2, if_neg h2]
        by_cases h3 : kd y = 3
        · rw [if_pos h3, if_pos h3, h y (by simp) h3]
          exact ⟨rfl, fun x hx => List.mem_cons_of_mem _ hx⟩
        · rw [if_neg h3, if_neg h3]
          by_cases h4 : kd y = 4
          · rw [if_pos h4, if_pos h4, ← e1]
            exact ⟨rfl, fun x hx => List.mem_cons_of_mem _ (m1 x hx)⟩
          · rw [if_neg h4, if_neg h4, ← e1, ← e2]
            exact ⟨rfl, fun x hx => List.mem_cons_of_mem _ (m1 x (m2 x hx))⟩
theorem Va.same {g g' : List UInt8 → Int} {d : Nat} {xs : List (List UInt8)} {v v' : Int} (h : Va g d xs v) (h' : Va g' d xs v') (hs : ∀ x ∈ xs, kd x = 3 → g x = g' x) : v = v' := by
  have h1 := h (d + 1) (by omega) []
  have h2 := h' (d + 1) (by omega) []
  rw [List.append_nil] at h1 h2
  rw [(vl_same g g' (d + 1) xs hs).1, h2] at h1
  simpa using h1.symm

end Go.Proofs.Ytpjfmgmhohpjmaa
