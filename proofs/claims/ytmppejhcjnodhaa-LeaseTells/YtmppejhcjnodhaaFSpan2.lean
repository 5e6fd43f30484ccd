/-
  Spans of whole numbers: right ones, their parts, sums and differences, what they meet in, and what holds both.
-/
import Derived.Test.YtmppejhcjnodhaaFSpan1
namespace Go.Proofs.Ytmppejhcjnodhaa
open Go.RowKit

theorem small_abs {a : Int} (h1 : -4398046511104 ≤ a) (h2 : a ≤ 4398046511104) : a.natAbs < 2 ^ 53 := by omega

theorem right_yes {a b : Int} (h : Rt a b) (w : World) : Calls Try.prog 54 #[.complex .f64 (tw a) (tw b)] w fun e w' => e = .returned (.bool true) ∧ w' = w := by
  obtain ⟨h1, h2, h3⟩ := h
  have i1 := isTime_any a (by omega) w
  have i2 := isTime_any b (by omega) w
  rw [decide_eq_true (by omega)] at i1 i2
  have h4 := leq_tw a b (by omega) (by omega)
  rw [decide_eq_true h2] at h4
  have I1 := i1
  have I2 := i2
  clear i1 i2
  go_enter Try.func54, Try.ntmps54
  go_wp2_with fail
  refine I1.mono ?_
  rintro e w' ⟨rfl, rfl⟩
  go_wp2_with fail
  refine I2.mono ?_
  rintro e w' ⟨rfl, rfl⟩
  go_wp2
  go_ret
  exact ⟨rfl, rfl⟩

theorem right_no {a b : Int} (h : ¬ Rt a b) (ha : a.natAbs < 2 ^ 53) (hb : b.natAbs < 2 ^ 53) (w : World) : Calls Try.prog 54 #[.complex .f64 (tw a) (tw b)] w fun e w' => e = .returned (.bool false) ∧ w' = w := by
  have I1 := isTime_any a ha w
  have I2 := isTime_any b hb w
  have h4 := leq_tw a b ha hb
  by_cases c1 : -1099511627776 ≤ a ∧ a ≤ 1099511627776
  · rw [decide_eq_true c1] at I1
    by_cases c2 : -1099511627776 ≤ b ∧ b ≤ 1099511627776
    · rw [decide_eq_true c2] at I2
      have c3 : ¬ a ≤ b := fun c => h ⟨c1.1, c, c2.2⟩
      rw [decide_eq_false c3] at h4
      clear h c1 c2 c3 ha hb
      go_enter Try.func54, Try.ntmps54
      go_wp2_with fail
      refine I1.mono ?_
      rintro e w' ⟨rfl, rfl⟩
      go_wp2_with fail
      refine I2.mono ?_
      rintro e w' ⟨rfl, rfl⟩
      go_wp2
      go_ret
      exact ⟨rfl, rfl⟩
    · rw [decide_eq_false c2] at I2
      clear h c1 c2 h4 ha hb
      go_enter Try.func54, Try.ntmps54
      go_wp2_with fail
      refine I1.mono ?_
      rintro e w' ⟨rfl, rfl⟩
      go_wp2_with fail
      refine I2.mono ?_
      rintro e w' ⟨rfl, rfl⟩
      go_wp2
      go_ret
      exact ⟨rfl, rfl⟩
  · rw [decide_eq_false c1] at I1
    clear h c1 h4 ha hb I2
    go_enter Try.func54, Try.ntmps54
    go_wp2_with fail
    refine I1.mono ?_
    rintro e w' ⟨rfl, rfl⟩
    go_wp2
    go_ret
    exact ⟨rfl, rfl⟩

theorem run_toInt (a : Int) (ha : a.natAbs < 2 ^ 53) (w : World) : (convert 88 3 (.float .f64 (tw a))).run Try.prog w = .ok (.int .i64 a) w :=
  run_convert_float_int w 88 3 .f64 .i64 (tw a) a (by rw [Try.underlying88]; rfl) Try.underlying3 (toInt_tw a ha)

theorem parts_yes {a b : Int} (h : Rt a b) (w : World) : Calls Try.prog 42 #[.complex .f64 (tw a) (tw b)] w fun e w' => e = .returned (.tuple #[.int .i64 a, .int .i64 b, .bool true]) ∧ w' = w := by
  have I1 := right_yes h w
  have h1 := run_toInt a (by have := h.lo; have := h.mid; have := h.hi; omega)
  have h2 := run_toInt b (by have := h.lo; have := h.mid; have := h.hi; omega)
  clear h
  go_enter Try.func42, Try.ntmps42
  go_wp2_with fail
  refine I1.mono ?_
  rintro e w' ⟨rfl, rfl⟩
  go_wp2
  exact bodyPost_ret (v := .tuple #[.int .i64 a, .int .i64 b, .bool true]) (by simp [results, Try.results42, go_sem]) rfl ⟨rfl, rfl⟩

theorem parts_no {a b : Int} (h : ¬ Rt a b) (ha : a.natAbs < 2 ^ 53) (hb : b.natAbs < 2 ^ 53) (w : World) : Calls Try.prog 42 #[.complex .f64 (tw a) (tw b)] w fun e w' => e = .returned (.tuple #[.int .i64 0, .int .i64 0, .bool false]) ∧ w' = w := by
  have I1 := right_no h ha hb w
  clear h ha hb
  go_enter Try.func42, Try.ntmps42
  go_wp2_with fail
  refine I1.mono ?_
  rintro e w' ⟨rfl, rfl⟩
  go_wp2
  exact bodyPost_ret (v := .tuple #[.int .i64 0, .int .i64 0, .bool false]) (by simp [results, Try.results42, go_sem]) rfl ⟨rfl, rfl⟩

theorem of_any (a b : Int) (w : World) : Calls Try.prog 43 #[.int .i64 a, .int .i64 b] w fun e w' => e = .returned (.complex .f64 (tw a) (tw b)) ∧ w' = w := by
  go_enter Try.func43, Try.ntmps43
  go_wp2
  go_ret
  exact ⟨rfl, rfl⟩

theorem both_yes {a b c d : Int} (h : Rt a b) (k : Rt c d) (w : World) : Calls Try.prog 52 #[.complex .f64 (tw a) (tw b), .complex .f64 (tw c) (tw d)] w fun e w' => e = .returned (.bool true) ∧ w' = w := by
  have I1 := right_yes h w
  have I2 := right_yes k w
  clear h k
  go_enter Try.func52, Try.ntmps52
  go_wp2_with fail
  refine I1.mono ?_
  rintro e w' ⟨rfl, rfl⟩
  go_wp2_with fail
  refine I2.mono ?_
  rintro e w' ⟨rfl, rfl⟩
  go_wp2
  go_ret
  exact ⟨rfl, rfl⟩

theorem told_yes {a b : Int} (h : Rt a b) (w : World) : Calls Try.prog 53 #[.complex .f64 (tw a) (tw b)] w fun e w' => e = .returned (.tuple #[.complex .f64 (tw a) (tw b), .bool true]) ∧ w' = w := by
  have I1 := parts_yes h w
  clear h
  go_enter Try.func53, Try.ntmps53
  go_wp2_with fail
  refine I1.mono ?_
  rintro e w' ⟨rfl, rfl⟩
  go_wp2_with fail
  refine (of_any a b w').mono ?_
  rintro e w' ⟨rfl, rfl⟩
  go_wp2
  go_ret2
  exact ⟨rfl, rfl⟩

theorem told_no {a b : Int} (h : ¬ Rt a b) (ha : a.natAbs < 2 ^ 53) (hb : b.natAbs < 2 ^ 53) (w : World) : Calls Try.prog 53 #[.complex .f64 (tw a) (tw b)] w fun e w' => e = .returned (.tuple #[.complex .f64 (tw 0) (tw 0), .bool false]) ∧ w' = w := by
  have I1 := parts_no h ha hb w
  clear h ha hb
  go_enter Try.func53, Try.ntmps53
  go_wp2_with fail
  refine I1.mono ?_
  rintro e w' ⟨rfl, rfl⟩
  go_wp2_with fail
  refine (of_any 0 0 w').mono ?_
  rintro e w' ⟨rfl, rfl⟩
  go_wp2
  go_ret2
  exact ⟨rfl, rfl⟩

end Go.Proofs.Ytmppejhcjnodhaa
