/-
  What was chosen, plainly: a log as numbers and a function of slots.
-/
import Derived.Test.YtmejeiadfcdogaaSB
namespace Go.Proofs.Ytmejeiadfcdogaa
open Go.RowKit

/-- Values by slots. -/
abbrev Vals := Int → Option (List UInt8)
def put (f : Vals) (s : Int) (v : List UInt8) : Vals := fun z => if z = s then some v else f z
def strike (f : Vals) (s : Int) : Vals := fun z => if z = s then none else f z
/-- What lies below n is forgotten. -/
def gone (f : Vals) (n : Int) : Vals := fun z => if z < n then none else f z

theorem put_same {f : Vals} {s : Int} {v : List UInt8} (h : f s = some v) : put f s v = f := by
  funext z
  unfold put
  split
  · rename_i e; rw [e, h]
  · rfl
theorem gone_step (f : Vals) (k : Nat) : strike (gone f k) k = gone f ((k + 1 : Nat) : Int) := by
  funext z
  unfold strike gone
  by_cases h1 : z = (k : Int)
  · rw [if_pos h1, if_pos (by omega)]
  · rw [if_neg h1]
    by_cases h2 : z < (k : Int)
    · rw [if_pos h2, if_pos (by omega)]
    · rw [if_neg h2, if_neg (by omega)]
theorem gone_none {f : Vals} {b : Nat} (h : ∀ z : Int, z < b → f z = none) : gone f b = f := by
  funext z
  unfold gone
  split
  · rename_i e; exact (h z e).symm
  · rfl

/-- A log, plainly. -/
structure Lo where
  base : Nat
  taken : Nat
  f : Vals

structure Lo.Ok (x : Lo) : Prop where
  le : x.base ≤ x.taken
  most : x.taken ≤ 512
  low : ∀ z : Int, z < x.base → x.f z = none
  high : ∀ z : Int, 512 ≤ z → x.f z = none
  full : ∀ z : Int, x.base ≤ z → z < x.taken → x.f z ≠ none

/-- m is the least slot from a on that is not known. -/
structure IsNext (f : Vals) (a m : Nat) : Prop where
  le : a ≤ m
  known : ∀ z : Int, a ≤ z → z < m → f z ≠ none
  stop : f m = none

theorem IsNext.unique {f : Vals} {a m n : Nat} (h : IsNext f a m) (k : IsNext f a n) : m = n := by
  rcases Nat.lt_trichotomy m n with l | l | l
  · exact absurd h.stop (k.known m (by have := h.le; omega) (by omega))
  · exact l
  · exact absurd k.stop (h.known n (by have := k.le; omega) (by omega))
theorem Lo.Ok.next_le {x : Lo} (h : x.Ok) {a m : Nat} (ha : a ≤ 512) (k : IsNext x.f a m) : m ≤ 512 := by
  rcases Nat.lt_or_ge 512 m with l | l
  · exact absurd (h.high 512 (by omega)) (k.known 512 (by omega) (by omega))
  · exact l
theorem Lo.Ok.next_base {x : Lo} (h : x.Ok) {m : Nat} (k : IsNext x.f x.taken m) : IsNext x.f x.base m := by
  refine ⟨Nat.le_trans h.le k.le, fun z h1 h2 => ?_, k.stop⟩
  by_cases h3 : z < x.taken
  · exact h.full z h1 h3
  · exact k.known z (by omega) h2
theorem Lo.Ok.base_next {x : Lo} (h : x.Ok) {m : Nat} (k : IsNext x.f x.base m) : IsNext x.f x.taken m := by
  have hm : x.taken ≤ m := by
    rcases Nat.lt_or_ge m x.taken with l | l
    · exact absurd k.stop (h.full m (by have := k.le; omega) (by omega))
    · exact l
  exact ⟨hm, fun z h1 h2 => k.known z (by have := h.le; omega) h2, k.stop⟩

/-- The values from a to below b. -/
def vals (f : Vals) (a b : Nat) : List (List UInt8) := (List.range' a (b - a)).map fun (s : Nat) => (f s).getD []
theorem vals_none (f : Vals) (a : Nat) : vals f a a = [] := by simp [vals]
theorem vals_step (f : Vals) {a k : Nat} (h : a ≤ k) : vals f a (k + 1) = vals f a k ++ [(f k).getD []] := by
  unfold vals
  rw [show k + 1 - a = (k - a) + 1 by omega, List.range'_concat, List.map_append]
  simp
  congr 3
  omega
theorem vals_length (f : Vals) (a b : Nat) : (vals f a b).length = b - a := by simp [vals]
theorem vals_congr {f g : Vals} {a b : Nat} (h : ∀ s : Nat, a ≤ s → s < b → f s = g s) : vals f a b = vals g a b := by
  unfold vals
  apply List.map_congr_left
  intro s hs
  rw [List.mem_range'_1] at hs
  rw [h s hs.1 (by omega)]
theorem vals_two (f : Vals) {a b c : Nat} (h1 : a ≤ b) (h2 : b ≤ c) : vals f a c = vals f a b ++ vals f b c := by
  unfold vals
  rw [← List.map_append]
  congr 1
  have := List.range'_append_1 (s := a) (m := b - a) (n := c - b)
  rw [show a + (b - a) = b by omega, show b - a + (c - b) = c - a by omega] at this
  exact this.symm

/-- The slots from a to below b that are not known. -/
def gapsIn (f : Vals) (a b : Nat) : List Nat := (List.range' a (b - a)).filter fun (s : Nat) => (f s).isNone
theorem gapsIn_none (f : Vals) {a b : Nat} (h : b ≤ a) : gapsIn f a b = [] := by simp [gapsIn, show b - a = 0 by omega]
theorem gapsIn_step (f : Vals) {a k : Nat} (h : a ≤ k) : gapsIn f a (k + 1) = gapsIn f a k ++ (if (f k).isNone = true then [k] else []) := by
  unfold gapsIn
  rw [show k + 1 - a = (k - a) + 1 by omega, List.range'_concat, List.filter_append]
  simp only [Nat.one_mul, show a + (k - a) = k by omega]
  congr 1
  by_cases hk : (f k).isNone = true
  · simp [hk]
  · simp [hk]
theorem gapsIn_length (f : Vals) (a b : Nat) : (gapsIn f a b).length ≤ b - a := by
  unfold gapsIn
  exact Nat.le_trans (List.length_filter_le _ _) (by simp)

/-- Learn: its answer, and what is left. -/
def learn (x : Lo) (s : Int) (v : List UInt8) : Nat × Lo :=
  if s < 0 ∨ 512 ≤ s then (1, x)
  else if s < x.base then (0, x)
  else match x.f s with
    | some u => if u = v then (0, x) else (37, x)
    | none => (0, { x with f := put x.f s v })
def compact (x : Lo) (n : Int) : Nat × Lo := if n < x.base ∨ x.taken < n then (1, x) else (0, { x with base := n.toNat, f := gone x.f n.toNat })
def jump (x : Lo) (n : Int) : Nat × Lo := if n < 0 ∨ 512 < n then (1, x) else if n ≤ x.taken then (0, x) else (0, ⟨n.toNat, n.toNat, gone x.f n.toNat⟩)

theorem learn_arg {x : Lo} {s : Int} {v : List UInt8} (h : s < 0 ∨ 512 ≤ s) : learn x s v = (1, x) := by unfold learn; rw [if_pos h]
theorem learn_low {x : Lo} {s : Int} {v : List UInt8} (h0 : 0 ≤ s) (h1 : s < 512) (h : s < x.base) : learn x s v = (0, x) := by unfold learn; rw [if_neg (by omega), if_pos h]
theorem learn_same {x : Lo} {s : Int} {v : List UInt8} (h0 : 0 ≤ s) (h1 : s < 512) (h2 : x.base ≤ s) (h : x.f s = some v) : learn x s v = (0, x) := by unfold learn; rw [if_neg (by omega), if_neg (by omega), h]; simp
theorem learn_other {x : Lo} {s : Int} {u v : List UInt8} (h0 : 0 ≤ s) (h1 : s < 512) (h2 : x.base ≤ s) (h : x.f s = some u) (hu : u ≠ v) : learn x s v = (37, x) := by unfold learn; rw [if_neg (by omega), if_neg (by omega), h]; simp [hu]
theorem learn_new {x : Lo} {s : Int} {v : List UInt8} (h0 : 0 ≤ s) (h1 : s < 512) (h2 : x.base ≤ s) (h : x.f s = none) : learn x s v = (0, { x with f := put x.f s v }) := by unfold learn; rw [if_neg (by omega), if_neg (by omega), h]

theorem Lo.Ok.put {x : Lo} (h : x.Ok) {s : Int} (h1 : s < 512) (h2 : x.base ≤ s) (v : List UInt8) : Lo.Ok { x with f := put x.f s v } := by
  refine ⟨h.le, h.most, fun z hz => ?_, fun z hz => ?_, fun z a b => ?_⟩
  · have hz' : z < (x.base : Int) := hz
    show (if z = s then some v else x.f z) = none
    rw [if_neg (by omega)]
    exact h.low z hz'
  · show (if z = s then some v else x.f z) = none
    rw [if_neg (by omega)]
    exact h.high z hz
  · show (if z = s then some v else x.f z) ≠ none
    split
    · simp
    · exact h.full z a b
theorem Lo.Ok.learn {x : Lo} (h : x.Ok) (s : Int) (v : List UInt8) : (learn x s v).2.Ok := by
  by_cases h0 : s < 0 ∨ 512 ≤ s
  · rw [learn_arg h0]; exact h
  · by_cases h1 : s < x.base
    · rw [learn_low (by omega) (by omega) h1]; exact h
    · cases hf : x.f s with
      | none => rw [learn_new (by omega) (by omega) (by omega) hf]; exact h.put (by omega) (by omega) v
      | some u =>
        by_cases e : u = v
        · subst e; rw [learn_same (by omega) (by omega) (by omega) hf]; exact h
        · rw [learn_other (by omega) (by omega) (by omega) hf e]; exact h
theorem Lo.Ok.compact {x : Lo} (h : x.Ok) {n : Nat} (h1 : x.base ≤ n) (h2 : n ≤ x.taken) : Lo.Ok { x with base := n, f := gone x.f n } := by
  refine ⟨h2, h.most, fun z hz => ?_, fun z hz => ?_, fun z a b => ?_⟩
  · have hz' : z < (n : Int) := hz
    show (if z < (n : Int) then none else x.f z) = none
    rw [if_pos hz']
  · show (if z < (n : Int) then none else x.f z) = none
    split
    · rfl
    · exact h.high z hz
  · have a' : (n : Int) ≤ z := a
    show (if z < (n : Int) then none else x.f z) ≠ none
    rw [if_neg (by omega)]
    exact h.full z (by omega) b
theorem Lo.Ok.jump {x : Lo} (h : x.Ok) {n : Nat} (h1 : n ≤ 512) : Lo.Ok ⟨n, n, gone x.f n⟩ := by
  refine ⟨Nat.le_refl _, h1, fun z hz => ?_, fun z hz => ?_, fun z a b => ?_⟩
  · have hz' : z < (n : Int) := hz
    show (if z < (n : Int) then none else x.f z) = none
    rw [if_pos hz']
  · show (if z < (n : Int) then none else x.f z) = none
    split
    · rfl
    · exact h.high z hz
  · have a' : (n : Int) ≤ z := a
    have b' : z < (n : Int) := b
    omega
theorem Lo.Ok.take {x : Lo} (h : x.Ok) {m : Nat} (k : IsNext x.f x.taken m) : Lo.Ok { x with taken := m } := by
  refine ⟨Nat.le_trans h.le k.le, h.next_le h.most k, h.low, h.high, fun z a b => ?_⟩
  have a' : (x.base : Int) ≤ z := a
  have b' : z < (m : Int) := b
  by_cases h3 : z < x.taken
  · exact h.full z a' h3
  · exact k.known z (by omega) b'
theorem ok_new : Lo.Ok ⟨0, 0, fun _ => none⟩ := ⟨Nat.le_refl _, by decide, fun _ _ => rfl, fun _ _ => rfl, fun z a b => by have a' : ((0 : Nat) : Int) ≤ z := a; have b' : z < ((0 : Nat) : Int) := b; omega⟩

end Go.Proofs.Ytmejeiadfcdogaa
