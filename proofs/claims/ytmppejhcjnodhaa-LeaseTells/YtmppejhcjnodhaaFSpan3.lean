/-
  Spans of whole numbers: sums, differences, what two meet in, what holds both; drifts.
-/
import Derived.Test.YtmppejhcjnodhaaFSpan2
namespace Go.Proofs.Ytmppejhcjnodhaa
open Go.RowKit

theorem Rt.abs {a b : Int} (h : Rt a b) : a.natAbs < 2 ^ 53 ∧ b.natAbs < 2 ^ 53 := by
  obtain ⟨h1, h2, h3⟩ := h
  omega
theorem sum_bits {a b c d : Int} (h : Rt a b) (k : Rt c d) : cSumBits .add .f64 (tw a) (tw b) (tw c) (tw d) = some (tw (a + c), tw (b + d)) := by
  obtain ⟨h1, h2, h3⟩ := h
  obtain ⟨k1, k2, k3⟩ := k
  unfold cSumBits
  rw [add_tw a c (by omega) (by omega) (by omega), add_tw b d (by omega) (by omega) (by omega)]
  rfl
theorem diff_bits {a b c d : Int} (h : Rt a b) (k : Rt c d) : cSumBits .sub .f64 (tw a) (tw b) (tw d) (tw c) = some (tw (a - d), tw (b - c)) := by
  obtain ⟨h1, h2, h3⟩ := h
  obtain ⟨k1, k2, k3⟩ := k
  unfold cSumBits
  rw [sub_tw a d (by omega) (by omega) (by omega), sub_tw b c (by omega) (by omega) (by omega)]
  rfl
theorem run_sum {a b c d : Int} (h : Rt a b) (k : Rt c d) (w : World) : (binOp .add 66 (.complex .f64 (tw a) (tw b)) (.complex .f64 (tw c) (tw d))).run Try.prog w = .ok (.complex .f64 (tw (a + c)) (tw (b + d))) w :=
  run_complex_sum w .add (.inl rfl) 66 .f64 _ _ _ _ _ _ (sum_bits h k)
theorem run_diff {a b c d : Int} (h : Rt a b) (k : Rt c d) (w : World) : (binOp .sub 66 (.complex .f64 (tw a) (tw b)) (.complex .f64 (tw d) (tw c))).run Try.prog w = .ok (.complex .f64 (tw (a - d)) (tw (b - c))) w :=
  run_complex_sum w .sub (.inr rfl) 66 .f64 _ _ _ _ _ _ (diff_bits h k)

theorem run_max (a c : Int) (ha : a.natAbs < 2 ^ 53) (hc : c.natAbs < 2 ^ 53) (ts : Array TypeId) (t : TypeId) (w : World) : (Builtin.max_ ts t #[.float .f64 (tw a), .float .f64 (tw c)]).run Try.prog w = .ok (.float .f64 (tw (if a < c then c else a))) w := by
  have ho := order_tw a c ha hc
  rcases Int.lt_trichotomy a c with h | h | h
  · rw [Int.compare_eq_lt.2 h] at ho
    rw [if_pos h]
    simp [Builtin.max_, Builtin.max2, ho]
  · subst h
    rw [Int.compare_eq_eq.2 rfl] at ho
    simp [Builtin.max_, Builtin.max2, ho]
  · rw [Int.compare_eq_gt.2 h] at ho
    rw [if_neg (by omega)]
    simp [Builtin.max_, Builtin.max2, ho]
theorem run_min (a c : Int) (ha : a.natAbs < 2 ^ 53) (hc : c.natAbs < 2 ^ 53) (ts : Array TypeId) (t : TypeId) (w : World) : (Builtin.min_ ts t #[.float .f64 (tw a), .float .f64 (tw c)]).run Try.prog w = .ok (.float .f64 (tw (if a < c then a else c))) w := by
  have ho := order_tw a c ha hc
  rcases Int.lt_trichotomy a c with h | h | h
  · rw [Int.compare_eq_lt.2 h] at ho
    rw [if_pos h]
    simp [Builtin.min_, Builtin.min2, ho]
  · subst h
    rw [Int.compare_eq_eq.2 rfl] at ho
    simp [Builtin.min_, Builtin.min2, ho]
  · rw [Int.compare_eq_gt.2 h] at ho
    rw [if_neg (by omega)]
    simp [Builtin.min_, Builtin.min2, ho]

theorem add_yes {a b c d : Int} (h : Rt a b) (k : Rt c d) (r : Rt (a + c) (b + d)) (w : World) : Calls Try.prog 41 #[.complex .f64 (tw a) (tw b), .complex .f64 (tw c) (tw d)] w fun e w' => e = .returned (.tuple #[.complex .f64 (tw (a + c)) (tw (b + d)), .bool true]) ∧ w' = w := by
  have I1 := both_yes h k w
  have I2 := told_yes r w
  have hs := run_sum h k
  clear h k r
  go_enter Try.func41, Try.ntmps41
  go_wp2_with fail
  refine I1.mono ?_
  rintro e w' ⟨rfl, rfl⟩
  go_wp2_with fail
  refine I2.mono ?_
  rintro e w' ⟨rfl, rfl⟩
  go_wp2
  go_ret2
  exact ⟨rfl, rfl⟩
theorem add_no {a b c d : Int} (h : Rt a b) (k : Rt c d) (r : ¬ Rt (a + c) (b + d)) (w : World) : Calls Try.prog 41 #[.complex .f64 (tw a) (tw b), .complex .f64 (tw c) (tw d)] w fun e w' => e = .returned (.tuple #[.complex .f64 (tw 0) (tw 0), .bool false]) ∧ w' = w := by
  have I1 := both_yes h k w
  have hs := run_sum h k
  have I2 := told_no r (by obtain ⟨h1, h2, h3⟩ := h; obtain ⟨k1, k2, k3⟩ := k; omega) (by obtain ⟨h1, h2, h3⟩ := h; obtain ⟨k1, k2, k3⟩ := k; omega) w
  clear h k r
  go_enter Try.func41, Try.ntmps41
  go_wp2_with fail
  refine I1.mono ?_
  rintro e w' ⟨rfl, rfl⟩
  go_wp2_with fail
  refine I2.mono ?_
  rintro e w' ⟨rfl, rfl⟩
  go_wp2
  go_ret2
  exact ⟨rfl, rfl⟩
theorem sub_yes {a b c d : Int} (h : Rt a b) (k : Rt c d) (r : Rt (a - d) (b - c)) (w : World) : Calls Try.prog 49 #[.complex .f64 (tw a) (tw b), .complex .f64 (tw c) (tw d)] w fun e w' => e = .returned (.tuple #[.complex .f64 (tw (a - d)) (tw (b - c)), .bool true]) ∧ w' = w := by
  have I1 := both_yes h k w
  have I2 := told_yes r w
  have hs := run_diff h k
  clear h k r
  go_enter Try.func49, Try.ntmps49
  go_wp2_with fail
  refine I1.mono ?_
  rintro e w' ⟨rfl, rfl⟩
  go_wp2_with fail
  refine I2.mono ?_
  rintro e w' ⟨rfl, rfl⟩
  go_wp2
  go_ret2
  exact ⟨rfl, rfl⟩

theorem within_span {a b c d : Int} (h : Rt a b) (k : Rt c d) (w : World) : Calls Try.prog 50 #[.complex .f64 (tw a) (tw b), .complex .f64 (tw c) (tw d)] w fun e w' => e = .returned (.bool (decide (c ≤ a ∧ b ≤ d))) ∧ w' = w := by
  have I1 := both_yes h k w
  have h1 := leq_tw c a k.abs.1 h.abs.1
  have h2 := leq_tw b d h.abs.2 k.abs.2
  clear h k
  by_cases c1 : c ≤ a <;> by_cases c2 : b ≤ d
  all_goals
    simp only [c1, c2, decide_true, decide_false, and_true, and_false] at h1 h2 ⊢
    clear c1 c2
    go_enter Try.func50, Try.ntmps50
    go_wp2_with fail
    refine I1.mono ?_
    rintro e w' ⟨rfl, rfl⟩
    go_wp2
    go_ret
    exact ⟨rfl, rfl⟩

end Go.Proofs.Ytmppejhcjnodhaa
