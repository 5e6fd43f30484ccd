/-
  Drifts, by the program and by the document; the books' Within; chapter 3's runs.
-/
import Derived.Test.YtaacgmogbolakaaFSpan3
namespace Go.Proofs.Ytaacgmogbolakaa
open Go.RowKit

theorem Calls.drawn {P : Program} {f : FuncId} {args : Array Value} {w : World} {v : Value} (h : Calls P f args w fun e w' => e = .returned v ∧ w' = w) : Calls P f args w fun e w' => e = .returned v ∧ ∃ n, w' = w.drewN n :=
  h.mono fun _ _ ⟨he, hw⟩ => ⟨he, 0, hw⟩

set_option maxHeartbeats 1000000 in
theorem within_any (n m : Int) (h0 : 0 ≤ m) (hm : m ≤ 10000000000000) (w : World) :
    Calls Try.prog 18 #[.int .i64 n, .int .i64 0, .int .i64 m] w fun e w' => (∃ k : Int, 0 ≤ k ∧ k ≤ m ∧ e = .returned (.int .i64 k)) ∧ w' = w := by
  have hz : (m + 1 == 0) = false := by simp; omega
  have hz2 : ¬ (m + 1 = 0) := by omega
  have hz3 : ¬ (m + 1 = -1) := by omega
  have h1 : n.tmod (m + 1) < m + 1 := Int.tmod_lt_of_pos n (by omega)
  have h2 : -(m + 1) < n.tmod (m + 1) := by
    have := Int.tmod_lt_of_pos (-n) (show (0 : Int) < m + 1 by omega)
    rw [Int.neg_tmod] at this
    omega
  generalize hr : n.tmod (m + 1) = r at *
  by_cases hn : r < 0
  · go_enter Try.func18, Try.ntmps18
    go_wp2
    go_ret
    exact ⟨⟨r + m + 1, by omega, by omega, rfl⟩, rfl⟩
  · go_enter Try.func18, Try.ntmps18
    go_wp2
    go_ret
    exact ⟨⟨r, by omega, by omega, rfl⟩, rfl⟩

/-- The least and the greatest time. -/
def lowOf (dt rho : Int) : Int := dt * 1000 / (1000 + rho)
def highOf (dt rho : Int) : Int := (dt * 1000 + (1000 - rho) - 1) / (1000 - rho)
theorem lowOf_le {dt rho : Int} (h1 : 0 ≤ dt) (h2 : dt ≤ 1073741824) (h3 : 0 ≤ rho) (h4 : rho ≤ 500) : 0 ≤ lowOf dt rho ∧ lowOf dt rho ≤ 1073741824 := by
  unfold lowOf
  constructor
  · exact Int.ediv_nonneg (by omega) (by omega)
  · refine Int.le_trans (Int.ediv_le_ediv (b := 1073741824 * (1000 + rho)) (by omega) (by have : 1073741824 * 1000 ≤ 1073741824 * (1000 + rho) := by omega
                                                                                          omega)) ?_
    rw [Int.mul_ediv_cancel _ (by omega)]
    exact Int.le_refl _
theorem highOf_le {dt rho : Int} (h1 : 0 ≤ dt) (h2 : dt ≤ 1073741824) (h3 : 0 ≤ rho) (h4 : rho ≤ 500) : 0 ≤ highOf dt rho ∧ highOf dt rho ≤ 2147483649 := by
  unfold highOf
  constructor
  · exact Int.ediv_nonneg (by omega) (by omega)
  · refine Int.le_trans (Int.ediv_le_ediv (b := 2147483649 * (1000 - rho)) (by omega) (by omega)) ?_
    rw [Int.mul_ediv_cancel _ (by omega)]
    exact Int.le_refl _

set_option maxHeartbeats 1000000 in
theorem drift_yes {dt rho : Int} (h1 : 0 ≤ dt) (h2 : dt ≤ 1073741824) (h3 : 0 ≤ rho) (h4 : rho ≤ 500) (w : World) :
    Calls Try.prog 10 #[.int .i64 dt, .int .i64 rho] w fun e w' => e = .returned (.tuple #[.complex .f64 (tw (lowOf dt rho)) (tw (highOf dt rho)), .bool true]) ∧ ∃ n, w' = w.drewN n := by
  have z1 : (1000 + rho == 0) = false := by simp; omega
  have z2 : (1000 - rho == 0) = false := by simp; omega
  have y1 : ¬ (1000 + rho = 0) := by omega
  have y2 : ¬ (1000 - rho = 0) := by omega
  have x1 : ¬ (1000 + rho = -1) := by omega
  have x2 : ¬ (1000 - rho = -1) := by omega
  go_enter Try.func10, Try.ntmps10
  go_wp2
  go_quiet ((go_at_call 9; exact Calls.quiet_of_same (of_any _ _ _)))
  go_wp2
  go_ret2
  exact ⟨rfl, _, rfl⟩

theorem drift_no {dt rho : Int} (h : dt < 0 ∨ 1073741824 < dt ∨ rho < 0 ∨ 500 < rho) (w : World) :
    Calls Try.prog 10 #[.int .i64 dt, .int .i64 rho] w fun e w' => e = .returned (.tuple #[.complex .f64 0 0, .bool false]) ∧ w' = w := by
  by_cases c1 : dt < 0 <;> by_cases c2 : 1073741824 < dt <;> by_cases c3 : rho < 0 <;> by_cases c4 : 500 < rho
  all_goals first
    | (exfalso; omega)
    | (clear h
       go_enter Try.func10, Try.ntmps10
       go_wp2
       go_ret2
       exact ⟨rfl, rfl⟩)

theorem known_any (w : World) : Calls Try.prog 17 #[] w fun e w' => e = .returned (.bool true) ∧ ∃ n, w' = w.drewN n := by
  have c1 : FloatKind.f64.format.order (tw (1 + 10)) 4622382067542392832 = some .eq := by kernel_rfl
  have c2 : FloatKind.f64.format.order (tw (3 + 20)) 4627167142146473984 = some .eq := by kernel_rfl
  have c3 : FloatKind.f64.format.order (tw (10 - 3)) 4619567317775286272 = some .eq := by kernel_rfl
  have c4 : FloatKind.f64.format.order (tw (20 - 1)) 4626041242239631360 = some .eq := by kernel_rfl
  have c5 : FloatKind.f64.format.order (tw (lowOf 100 100)) 4636033603912859648 = some .eq := by kernel_rfl
  have c6 : FloatKind.f64.format.order (tw (highOf 100 100)) 4637581716284768256 = some .eq := by kernel_rfl
  have a1 : Rt 1 3 := ⟨by omega, by omega, by omega⟩
  have a2 : Rt 10 20 := ⟨by omega, by omega, by omega⟩
  have a3 : Rt (1 + 10) (3 + 20) := ⟨by omega, by omega, by omega⟩
  have a4 : Rt (10 - 3) (20 - 1) := ⟨by omega, by omega, by omega⟩
  have p := add_yes a1 a2 a3 w
  have q := sub_yes a2 a1 a4 w
  have r := drift_yes (dt := 100) (rho := 100) (by omega) (by omega) (by omega) (by omega) w
  generalize tw (1 + 10) = x1 at *
  generalize tw (3 + 20) = x2 at *
  generalize tw (10 - 3) = x3 at *
  generalize tw (20 - 1) = x4 at *
  generalize tw (lowOf 100 100) = x5 at *
  generalize tw (highOf 100 100) = x6 at *
  clear a1 a2 a3 a4
  go_enter Try.func17, Try.ntmps17
  go_wp2_with fail
  refine (of_any 1 3 w).mono ?_
  rintro e w' ⟨rfl, rfl⟩
  go_wp2_with fail
  refine (of_any 10 20 w').mono ?_
  rintro e w' ⟨rfl, rfl⟩
  go_wp2_with fail
  refine p.mono ?_
  rintro e w' ⟨rfl, rfl⟩
  go_wp2_with fail
  refine (of_any 10 20 w').mono ?_
  rintro e w' ⟨rfl, rfl⟩
  go_wp2_with fail
  refine (of_any 1 3 w').mono ?_
  rintro e w' ⟨rfl, rfl⟩
  go_wp2_with fail
  refine q.mono ?_
  rintro e w' ⟨rfl, rfl⟩
  go_wp2_with fail
  refine r.mono ?_
  rintro e w' ⟨rfl, n, rfl⟩
  go_wp2
  go_ret
  exact ⟨rfl, _, rfl⟩

theorem meet_to {a b c d : Int} (h : Rt a b) (k : Rt c d) (x y : Int) (hx : (if a < c then c else a) = x) (hy : (if b < d then b else d) = y) (r : Rt x y) (w : World) : Calls Try.prog 8 #[.complex .f64 (tw a) (tw b), .complex .f64 (tw c) (tw d)] w fun e w' => e = .returned (.tuple #[.complex .f64 (tw x) (tw y), .bool true]) ∧ w' = w := by
  subst hx hy
  exact meet_yes h k r w
theorem hull_to {a b c d : Int} (h : Rt a b) (k : Rt c d) (x y : Int) (hx : (if a < c then a else c) = x) (hy : (if b < d then d else b) = y) (w : World) : Calls Try.prog 16 #[.complex .f64 (tw a) (tw b), .complex .f64 (tw c) (tw d)] w fun e w' => e = .returned (.complex .f64 (tw x) (tw y)) ∧ w' = w := by
  subst hx hy
  exact hull_any h k w
theorem before_to {a b c d : Int} (h : Rt a b) (k : Rt c d) (z : Bool) (hz : decide (b < c) = z) (w : World) : Calls Try.prog 14 #[.complex .f64 (tw a) (tw b), .complex .f64 (tw c) (tw d)] w fun e w' => e = .returned (.bool z) ∧ w' = w := by
  subst hz
  exact before_any h k w
theorem within_to {a b c d : Int} (h : Rt a b) (k : Rt c d) (hz : c ≤ a ∧ b ≤ d) (w : World) : Calls Try.prog 15 #[.complex .f64 (tw a) (tw b), .complex .f64 (tw c) (tw d)] w fun e w' => e = .returned (.bool true) ∧ w' = w := by
  have := within_span h k w
  rw [decide_eq_true hz] at this
  exact this

end Go.Proofs.Ytaacgmogbolakaa
