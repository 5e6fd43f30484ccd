/-
  Ballots and votes, plainly; votes as cells.
-/
import Derived.Test.YtpgoedpodfidjaaSB
import Derived.Deep.RegionHeldLaw
namespace Go.Proofs.Ytpgoedpodfidjaa
open Go.RowKit

/-- A ballot. -/
structure Bl where
  r : Int
  n : Int
/-- A vote. -/
structure Vo where
  s : Int
  b : Bl
  v : ByteArray

def less (a b : Bl) : Bool := decide (a.r < b.r) || (decide (a.r = b.r) && decide (a.n < b.n))

theorem less_iff (a b : Bl) : less a b = true ↔ a.r < b.r ∨ (a.r = b.r ∧ a.n < b.n) := by simp [less]
theorem less_not (a b : Bl) : less a b = false ↔ b.r < a.r ∨ (a.r = b.r ∧ b.n ≤ a.n) := by
  cases h : less a b
  · simp only [true_iff]
    have : ¬ (a.r < b.r ∨ (a.r = b.r ∧ a.n < b.n)) := fun q => by rw [(less_iff a b).2 q] at h; cases h
    omega
  · simp only [Bool.true_eq_false, false_iff]
    have := (less_iff a b).1 h
    omega
theorem less_self (a : Bl) : less a a = false := (less_not a a).2 (by omega)
theorem less_trans {a b c : Bl} (h : less a b = true) (k : less b c = true) : less a c = true := by
  rw [less_iff] at *; omega
theorem less_total {a b : Bl} (h : less a b = false) (k : less b a = false) : a = b := by
  rw [less_not] at *
  obtain ⟨r, n⟩ := a
  obtain ⟨r', n'⟩ := b
  simp at h k ⊢
  omega
theorem less_of_not {a b c : Bl} (h : less b a = false) (k : less b c = true) : less a c = true := by
  rw [less_not] at h; rw [less_iff] at *; omega
theorem less_le {a b c : Bl} (h : less b a = false) (k : less c b = false) : less c a = false := by
  rw [less_not] at *; omega
theorem less_asym {a b : Bl} (h : less a b = true) : less b a = false := by
  rw [less_iff] at h; rw [less_not]; omega

/-- A ballot and a vote as values. -/
def bval (b : Bl) : Value := .agg #[.int .i64 b.r, .int .i64 b.n]
def vval (x : Vo) : Value := .agg #[.int .i64 x.s, .int .i64 x.b.r, .int .i64 x.b.n, .string x.v]
def vcells (x : Vo) : List Value := [.int .i64 x.s, .int .i64 x.b.r, .int .i64 x.b.n, .string x.v]
def vrow (xs : List Vo) : List Value := xs.flatMap vcells

theorem vrow_nil : vrow [] = [] := rfl
theorem vrow_cons (x : Vo) (xs : List Vo) : vrow (x :: xs) = .int .i64 x.s :: .int .i64 x.b.r :: .int .i64 x.b.n :: .string x.v :: vrow xs := rfl
theorem vrow_length (xs : List Vo) : (vrow xs).length = xs.length * 4 := by
  induction xs with
  | nil => rfl
  | cons x xs ih => rw [vrow_cons]; simp [ih]; omega
theorem vrow_append (xs ys : List Vo) : vrow (xs ++ ys) = vrow xs ++ vrow ys := by simp [vrow]
theorem vrow_get : ∀ (xs : List Vo) (k : Nat) (h : k < xs.length), (vrow xs)[k * 4]? = some (.int .i64 xs[k].s) ∧ (vrow xs)[k * 4 + 1]? = some (.int .i64 xs[k].b.r) ∧ (vrow xs)[k * 4 + 2]? = some (.int .i64 xs[k].b.n) ∧ (vrow xs)[k * 4 + 3]? = some (.string xs[k].v)
  | x :: xs, 0, _ => by simp [vrow_cons]
  | x :: xs, k + 1, h => by
    have := vrow_get xs k (by simpa using h)
    rw [vrow_cons, show (k + 1) * 4 = k * 4 + 1 + 1 + 1 + 1 by omega]
    simpa using this
theorem vrow_one (xs : List Vo) : ∀ u ∈ vrow xs, u.oneCell' = true := by
  intro u hu
  obtain ⟨x, _, hm⟩ := List.mem_flatMap.1 hu
  simp [vcells] at hm
  rcases hm with rfl | rfl | rfl | rfl <;> rfl

/-- What is voted for, by slots. -/
abbrev Vs := Nat → Option (Bl × ByteArray)
def voteAt (f : Vs) (s : Nat) : Option Vo := (f s).map fun x => ⟨s, x.1, x.2⟩
/-- The votes at slots a to b - 1. -/
def votesUp (f : Vs) (a b : Nat) : List Vo := (List.range' a (b - a)).filterMap (voteAt f)
def votesFrom (f : Vs) (a : Int) : List Vo := votesUp f a.toNat 512

theorem votesUp_none (f : Vs) (a : Nat) : votesUp f a a = [] := by simp [votesUp]
theorem votesUp_over (f : Vs) {a b : Nat} (h : b ≤ a) : votesUp f a b = [] := by
  have : b - a = 0 := by omega
  simp [votesUp, this]
theorem votesUp_step (f : Vs) {a b : Nat} (h : a ≤ b) : votesUp f a (b + 1) = votesUp f a b ++ (voteAt f b).toList := by
  have e : b + 1 - a = (b - a) + 1 := by omega
  have e2 : a + (b - a) = b := by omega
  unfold votesUp
  rw [e, List.range'_concat, List.filterMap_append]
  simp only [Nat.one_mul, e2]
  cases h : voteAt f b <;> simp [h]
theorem votesUp_len (f : Vs) (a b : Nat) : (votesUp f a b).length ≤ b - a := by
  unfold votesUp
  exact Nat.le_trans (List.length_filterMap_le _ _) (by simp)
theorem votesUp_mem {f : Vs} {a b : Nat} {x : Vo} (h : x ∈ votesUp f a b) : ∃ s : Nat, a ≤ s ∧ s < b ∧ voteAt f s = some x := by
  unfold votesUp at h
  obtain ⟨s, hs, hx⟩ := List.mem_filterMap.1 h
  rw [List.mem_range'] at hs
  obtain ⟨i, hi, rfl⟩ := hs
  exact ⟨_, by omega, by omega, hx⟩
theorem votesUp_congr {f g : Vs} {a b : Nat} (h : ∀ s, a ≤ s → s < b → f s = g s) : votesUp f a b = votesUp g a b := by
  unfold votesUp
  have hc : ∀ l : List Nat, (∀ s ∈ l, f s = g s) → l.filterMap (voteAt f) = l.filterMap (voteAt g) := by
    intro l
    induction l with
    | nil => intro _; rfl
    | cons s l ih =>
      intro hl
      rw [List.filterMap_cons, List.filterMap_cons, ih (fun s hs => hl s (.tail _ hs))]
      have : voteAt f s = voteAt g s := by simp only [voteAt]; rw [hl s (.head _)]
      rw [this]
  apply hc
  intro s hs
  rw [List.mem_range'] at hs
  obtain ⟨i, hi, rfl⟩ := hs
  exact h _ (by omega) (by omega)

/-- Another vote at s. -/
def upd (f : Vs) (s : Nat) (b : Bl) (v : ByteArray) : Vs := fun k => if k = s then some (b, v) else f k
/-- The votes below k are forgotten. -/
def forgot (f : Vs) (k : Int) : Vs := fun s => if (s : Int) < k then none else f s

theorem votesUp_forgot (f : Vs) {k : Nat} (hk : k ≤ 512) : votesUp (forgot f k) 0 512 = votesUp f k 512 := by
  have h1 : ∀ n, n ≤ k → votesUp (forgot f k) 0 n = [] := by
    intro n
    induction n with
    | zero => intro _; exact votesUp_none _ _
    | succ n ih =>
      intro hn
      rw [votesUp_step _ (Nat.zero_le _), ih (by omega)]
      have : forgot f k n = none := by unfold forgot; rw [if_pos (by omega)]
      simp [voteAt, this]
  have h2 : ∀ n, votesUp (forgot f k) 0 (k + n) = votesUp f k (k + n) := by
    intro n
    induction n with
    | zero => rw [Nat.add_zero, h1 k (Nat.le_refl _)]; exact (votesUp_none _ _).symm
    | succ n ih =>
      rw [show k + (n + 1) = (k + n) + 1 by omega, votesUp_step _ (Nat.zero_le _), votesUp_step _ (by omega), ih]
      have : forgot f k (k + n) = f (k + n) := by unfold forgot; rw [if_neg (by omega)]
      simp [voteAt, this]
  have := h2 (512 - k)
  rwa [show k + (512 - k) = 512 by omega] at this
theorem votesUp_forgot' (f : Vs) (k : Nat) : votesUp (forgot f k) k 512 = votesUp f k 512 :=
  votesUp_congr (fun s h1 _ => by unfold forgot; rw [if_neg (by omega)])

end Go.Proofs.Ytpgoedpodfidjaa
