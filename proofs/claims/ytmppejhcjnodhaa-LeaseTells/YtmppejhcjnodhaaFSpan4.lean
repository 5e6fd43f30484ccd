/-
  Drifts, by the program and by the document; the books' Within; chapter 3's runs.
-/
import Derived.Test.YtmppejhcjnodhaaFSpan3
namespace Go.Proofs.Ytmppejhcjnodhaa
open Go.RowKit

theorem Calls.drawn {P : Program} {f : FuncId} {args : Array Value} {w : World} {v : Value} (h : Calls P f args w fun e w' => e = .returned v ∧ w' = w) : Calls P f args w fun e w' => e = .returned v ∧ ∃ n, w' = w.drewN n :=
  h.mono fun _ _ ⟨he, hw⟩ => ⟨he, 0, hw⟩

set_option maxHeartbeats 1000000 in
theorem within_any (n m : Int) (h0 : 0 ≤ m) (hm : m ≤ 10000000000000) (w : World) :
    Calls Try.prog 26 #[.int .i64 n, .int .i64 0, .int .i64 m] w fun e w' => (∃ k : Int, 0 ≤ k ∧ k ≤ m ∧ e = .returned (.int .i64 k)) ∧ w' = w := by
  have hz : (m + 1 == 0) = false := by simp; omega
  have hz2 : ¬ (m + 1 = 0) := by omega
  have hz3 : ¬ (m + 1 = -1) := by omega
  have h1 : n.tmod (m + 1) < m + 1 := Int.tmod_lt_of_pos n (by omega)
  have h2 : -(m + 1) < n.tmod (m + 1) := by
    have := Int.tmod_lt_of_pos (-n) (show (0 : Int) < m + 1 by omega)
    rw [Int.neg_tmod] at this
    omega
  generalize hr : n.tmod (m + 1) = r at *
  by_cases hn : r < 0
  · go_enter Try.func26, Try.ntmps26
    go_wp2
    go_ret
    exact ⟨⟨r + m + 1, by omega, by omega, rfl⟩, rfl⟩
  · go_enter Try.func26, Try.ntmps26
    go_wp2
    go_ret
    exact ⟨⟨r, by omega, by omega, rfl⟩, rfl⟩

/-- The least and the greatest time. -/
def lowOf (dt rho : Int) : Int := dt * 1000 / (1000 + rho)
def highOf (dt rho : Int) : Int := (dt * 1000 + (1000 - rho) - 1) / (1000 - rho)
theorem lowOf_le {dt rho : Int} (h1 : 0 ≤ dt) (h2 : dt ≤ 1073741824) (h3 : 0 ≤ rho) (h4 : rho ≤ 500) : 0 ≤ lowOf dt rho ∧ lowOf dt rho ≤ 1073741824 := by
  unfold lowOf
  constructor
  · exact Int.ediv_nonneg (by omega) (by omega)
  · refine Int.le_trans (Int.ediv_le_ediv (b := 1073741824 * (1000 + rho)) (by omega) (by have : 1073741824 * 1000 ≤ 1073741824 * (1000 + rho) := by omega
                                                                                          omega)) ?_
    rw [Int.mul_ediv_cancel _ (by omega)]
    exact Int.le_refl _
theorem highOf_le {dt rho : Int} (h1 : 0 ≤ dt) (h2 : dt ≤ 1073741824) (h3 : 0 ≤ rho) (h4 : rho ≤ 500) : 0 ≤ highOf dt rho ∧ highOf dt rho ≤ 2147483649 := by
  unfold highOf
  constructor
  · exact Int.ediv_nonneg (by omega) (by omega)
  · refine Int.le_trans (Int.ediv_le_ediv (b := 2147483649 * (1000 - rho)) (by omega) (by omega)) ?_
    rw [Int.mul_ediv_cancel _ (by omega)]
    exact Int.le_refl _

theorem within_to {a b c d : Int} (h : Rt a b) (k : Rt c d) (hz : c ≤ a ∧ b ≤ d) (w : World) : Calls Try.prog 50 #[.complex .f64 (tw a) (tw b), .complex .f64 (tw c) (tw d)] w fun e w' => e = .returned (.bool true) ∧ w' = w := by
  have := within_span h k w
  rw [decide_eq_true hz] at this
  exact this

end Go.Proofs.Ytmppejhcjnodhaa
