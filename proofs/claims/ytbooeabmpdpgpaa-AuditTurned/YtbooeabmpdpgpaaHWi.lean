/-
  The books' own Within, from nought on, exactly; a cell of a row that was written out.
-/
import Derived.Test.YtbooeabmpdpgpaaSB
namespace Go.Proofs.Ytbooeabmpdpgpaa
open Go.RowKit

/-- Within, plainly. -/
def wi (n : Int) (m : Nat) : Nat := (if n.tmod ((m : Int) + 1) < 0 then n.tmod ((m : Int) + 1) + (m : Int) + 1 else n.tmod ((m : Int) + 1)).toNat
theorem wi_le (n : Int) (m : Nat) : wi n m ≤ m := by
  have h1 : n.tmod ((m : Int) + 1) < (m : Int) + 1 := Int.tmod_lt_of_pos n (by omega)
  unfold wi
  split <;> omega
set_option maxHeartbeats 1000000 in
theorem wi_any {w : World} (n : Int) (m : Nat) (hm : m ≤ 1000000000000) :
    Calls Try.prog 24 #[.int .i64 n, .int .i64 0, .int .i64 m] w fun e w' => e = .returned (.int .i64 (wi n m : Nat)) ∧ w' = w := by
  have hz : ((m : Int) + 1 == 0) = false := by simp; omega
  have hz2 : ¬ ((m : Int) + 1 = 0) := by omega
  have hz3 : ¬ ((m : Int) + 1 = -1) := by omega
  have h1 : n.tmod ((m : Int) + 1) < (m : Int) + 1 := Int.tmod_lt_of_pos n (by omega)
  have h2 : -((m : Int) + 1) < n.tmod ((m : Int) + 1) := by
    have := Int.tmod_lt_of_pos (-n) (show (0 : Int) < (m : Int) + 1 by omega)
    rw [Int.neg_tmod] at this
    omega
  unfold wi
  generalize hr : n.tmod ((m : Int) + 1) = r at *
  by_cases hn : r < 0
  · rw [if_pos hn, Int.toNat_of_nonneg (by omega)]
    go_enter Try.func24, Try.ntmps24
    go_wp2
    go_ret
    exact ⟨rfl, rfl⟩
  · rw [if_neg hn, Int.toNat_of_nonneg (by omega)]
    go_enter Try.func24, Try.ntmps24
    go_wp2
    go_ret
    exact ⟨rfl, rfl⟩
theorem lit_cell {w : World} {G : Nat} {cs : Array Value} {ty : TypeId} {fr : Nat × Nat} (h : w.heap[G]? = some (.cells cs ty fr)) {k : Nat} {v : Value} (hv : cs[k]? = some v) : w.cell? ⟨G, k, none⟩ = some v := by
  rw [cell_of_row w G _ _ _ _ h]
  exact hv

end Go.Proofs.Ytbooeabmpdpgpaa
