/-
  The books' own Within, from nought on.
-/
import Derived.Test.YtciecjnmiacmeaaSB
namespace Go.Proofs.Ytciecjnmiacmeaa
open Go.RowKit

set_option maxHeartbeats 1000000 in
theorem within_any {w : World} (n : Int) (m : Nat) (hm : m ≤ 1000000000000) :
    Calls Try.prog 18 #[.int .i64 n, .int .i64 0, .int .i64 m] w fun e w' => (∃ k : Nat, k ≤ m ∧ e = .returned (.int .i64 k)) ∧ w' = w := by
  have hz : ((m : Int) + 1 == 0) = false := by simp; omega
  have hz2 : ¬ ((m : Int) + 1 = 0) := by omega
  have hz3 : ¬ ((m : Int) + 1 = -1) := by omega
  have h1 : n.tmod ((m : Int) + 1) < (m : Int) + 1 := Int.tmod_lt_of_pos n (by omega)
  have h2 : -((m : Int) + 1) < n.tmod ((m : Int) + 1) := by
    have := Int.tmod_lt_of_pos (-n) (show (0 : Int) < (m : Int) + 1 by omega)
    rw [Int.neg_tmod] at this
    omega
  generalize hr : n.tmod ((m : Int) + 1) = r at *
  by_cases hn : r < 0
  · go_enter Try.func18, Try.ntmps18
    go_wp2
    go_ret
    refine ⟨⟨(r + (m : Int) + 1).toNat, by omega, ?_⟩, rfl⟩
    rw [Int.toNat_of_nonneg (by omega)]
    rfl
  · go_enter Try.func18, Try.ntmps18
    go_wp2
    go_ret
    refine ⟨⟨r.toNat, by omega, ?_⟩, rfl⟩
    rw [Int.toNat_of_nonneg (by omega)]
    rfl

end Go.Proofs.Ytciecjnmiacmeaa
