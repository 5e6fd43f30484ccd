/-
  Leases, plainly: times, drifts, how long a holder may answer, what a fair clock may show.
-/
import Derived.Test.YtmppejhcjnodhaaRows
namespace Go.Proofs.Ytmppejhcjnodhaa

/-- A time that a clock may show. -/
abbrev Tm (n : Int) : Prop := 0 ≤ n ∧ n ≤ 1073741824
/-- A drift. -/
abbrev Dr (r : Int) : Prop := 0 ≤ r ∧ r ≤ 500

/-- The least that a length by one clock is by another. -/
def share (length rho : Int) : Int := length * (1000 - rho) / (1000 + rho)
/-- The most. -/
def longest (length rho : Int) : Int := (length * (1000 + rho) + (1000 - rho) - 1) / (1000 - rho)

theorem prod_le {a b m n : Int} (ha : 0 ≤ a) (hb : 0 ≤ b) (h1 : a ≤ m) (h2 : b ≤ n) : 0 ≤ a * b ∧ a * b ≤ m * n :=
  ⟨Int.mul_nonneg ha hb, Int.mul_le_mul h1 h2 hb (by omega)⟩

theorem share_le {length rho : Int} (hl : 0 ≤ length) (hr : Dr rho) : 0 ≤ share length rho ∧ share length rho ≤ length := by
  obtain ⟨r0, r1⟩ := hr
  have hp := Int.mul_nonneg hl (show (0 : Int) ≤ 1000 - rho by omega)
  constructor
  · exact Int.ediv_nonneg hp (by omega)
  · have h : length * (1000 - rho) ≤ length * (1000 + rho) := Int.mul_le_mul_of_nonneg_left (by omega) hl
    have := Int.ediv_le_ediv (show (0 : Int) < 1000 + rho by omega) h
    rwa [Int.mul_ediv_cancel _ (by omega)] at this
theorem longest_le {length rho : Int} (hl : Tm length) (hr : Dr rho) : length ≤ longest length rho ∧ longest length rho ≤ 4294967296 := by
  obtain ⟨r0, r1⟩ := hr
  obtain ⟨l0, l1⟩ := hl
  have h : length * (1000 - rho) ≤ length * (1000 + rho) := Int.mul_le_mul_of_nonneg_left (by omega) l0
  have k : length * (1000 + rho) ≤ 1073741824 * 1500 := (prod_le l0 (by omega) l1 (by omega)).2
  unfold longest
  constructor
  · have := Int.ediv_le_ediv (show (0 : Int) < 1000 - rho by omega) (show length * (1000 - rho) ≤ length * (1000 + rho) + (1000 - rho) - 1 by omega)
    rwa [Int.mul_ediv_cancel _ (by omega)] at this
  · have e : (length * (1000 + rho) + (1000 - rho) - 1) ≤ 4294967296 * (1000 - rho) := by omega
    have := Int.ediv_le_ediv (show (0 : Int) < 1000 - rho by omega) e
    rwa [Int.mul_ediv_cancel _ (by omega)] at this

/-- What a fair clock may show of so much real time. -/
def least (between rho : Int) : Int := (between * (1000 - rho) + 1000 - 1) / 1000
def most (between rho : Int) : Int := between * (1000 + rho) / 1000
theorem shown_le {between rho : Int} (hb : Tm between) (hr : Dr rho) : 0 ≤ least between rho ∧ least between rho ≤ between ∧ between ≤ most between rho ∧ most between rho ≤ 1610612736 := by
  obtain ⟨r0, r1⟩ := hr
  obtain ⟨l0, l1⟩ := hb
  have h0 := Int.mul_nonneg l0 (show (0 : Int) ≤ 1000 - rho by omega)
  have h1 : between * (1000 - rho) ≤ between * 1000 := Int.mul_le_mul_of_nonneg_left (by omega) l0
  have h2 : between * 1000 ≤ between * (1000 + rho) := Int.mul_le_mul_of_nonneg_left (by omega) l0
  have h3 : between * (1000 + rho) ≤ 1073741824 * 1500 := (prod_le l0 (by omega) l1 (by omega)).2
  unfold least most
  omega

end Go.Proofs.Ytmppejhcjnodhaa
