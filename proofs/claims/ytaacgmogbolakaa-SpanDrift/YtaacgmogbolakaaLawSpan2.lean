/-
  SpanParts and SpanDrift: they answer true for all numbers.
-/
import Derived.Test.YtaacgmogbolakaaFSpan4
namespace Go.Proofs.Ytaacgmogbolakaa
open Go.RowKit

theorem rof_any (a b : Int) (w : World) : Calls Try.prog 20 #[.int .i64 a, .int .i64 b] w fun e w' => e = .returned (.complex .f64 (tw a) (tw b)) ∧ w' = w := by
  go_enter Try.func20, Try.ntmps20
  go_wp2
  go_ret
  exact ⟨rfl, rfl⟩

set_option maxHeartbeats 1000000 in
theorem rdrift_yes {dt rho : Int} (h1 : 0 ≤ dt) (h2 : dt ≤ 1073741824) (h3 : 0 ≤ rho) (h4 : rho ≤ 500) (w : World) :
    Calls Try.prog 19 #[.int .i64 dt, .int .i64 rho] w fun e w' => e = .returned (.tuple #[.complex .f64 (tw (lowOf dt rho)) (tw (highOf dt rho)), .bool true]) ∧ w' = w := by
  have z1 : (1000 + rho == 0) = false := by simp; omega
  have z2 : (1000 - rho == 0) = false := by simp; omega
  have y1 : ¬ (1000 + rho = 0) := by omega
  have y2 : ¬ (1000 - rho = 0) := by omega
  have x1 : ¬ (1000 + rho = -1) := by omega
  have x2 : ¬ (1000 - rho = -1) := by omega
  have e : highOf dt rho = (dt * 1000 + 1000 - rho - 1) / (1000 - rho) := by unfold highOf; congr 1; omega
  have E : Hid (highOf dt rho = (dt * 1000 + 1000 - rho - 1) / (1000 - rho)) := e
  clear e
  go_enter Try.func19, Try.ntmps19
  go_wp2_with (go_at_call 20; refine (rof_any _ _ _).mono ?_; rintro e w' ⟨rfl, rfl⟩)
  go_ret2
  exact ⟨by rw [E.out]; rfl, rfl⟩
theorem rdrift_no {dt rho : Int} (h : dt < 0 ∨ 1073741824 < dt ∨ rho < 0 ∨ 500 < rho) (w : World) :
    Calls Try.prog 19 #[.int .i64 dt, .int .i64 rho] w fun e w' => e = .returned (.tuple #[.complex .f64 0 0, .bool false]) ∧ w' = w := by
  by_cases c1 : dt < 0 <;> by_cases c2 : 1073741824 < dt <;> by_cases c3 : rho < 0 <;> by_cases c4 : 500 < rho
  all_goals first
    | (exfalso; omega)
    | (clear h
       go_enter Try.func19, Try.ntmps19
       go_wp2
       go_ret2
       exact ⟨rfl, rfl⟩)

theorem same_tw (a : Int) (h : a.natAbs < 2 ^ 53) : FloatKind.f64.format.order (tw a) (tw a) = some .eq := by
  rw [order_tw a a h h, Int.compare_eq_eq.2 rfl]

set_option maxHeartbeats 1000000 in
theorem spanParts_any (a b dt rho : Int) (w : World) : Calls Try.prog 4 #[.int .i64 a, .int .i64 b, .int .i64 dt, .int .i64 rho] w fun e w' => e = .returned (.bool true) ∧ ∃ n, w' = w.drewN n := by
  have key : ∃ (p q : Nat) (z : Bool), FloatKind.f64.format.order p p = some .eq ∧ FloatKind.f64.format.order q q = some .eq ∧ (∀ w, Calls Try.prog 10 #[.int .i64 dt, .int .i64 rho] w fun e w' => e = .returned (.tuple #[.complex .f64 p q, .bool z]) ∧ ∃ n, w' = w.drewN n) ∧ (∀ w, Calls Try.prog 19 #[.int .i64 dt, .int .i64 rho] w fun e w' => e = .returned (.tuple #[.complex .f64 p q, .bool z]) ∧ w' = w) := by
    by_cases h : dt < 0 ∨ 1073741824 < dt ∨ rho < 0 ∨ 500 < rho
    · exact ⟨0, 0, false, by kernel_rfl, by kernel_rfl, fun w => Calls.drawn (drift_no h w), fun w => rdrift_no h w⟩
    · have l := lowOf_le (dt := dt) (rho := rho) (by omega) (by omega) (by omega) (by omega)
      have u := highOf_le (dt := dt) (rho := rho) (by omega) (by omega) (by omega) (by omega)
      exact ⟨_, _, true, same_tw _ (by omega), same_tw _ (by omega), fun w => drift_yes (by omega) (by omega) (by omega) (by omega) w, fun w => rdrift_yes (by omega) (by omega) (by omega) (by omega) w⟩
  obtain ⟨p, q, z, hp, hq, D, E⟩ := key
  go_enter Try.func4, Try.ntmps4
  go_wp2_with fail
  refine Calls.mono (within_any a 2199023255561 (by omega) (by omega) _) ?_
  rintro e w1 ⟨⟨k1, l1, u1, rfl⟩, rfl⟩
  go_wp2_with fail
  have s1 := same_tw (k1 - 1099511627776 - 4) (by omega)
  refine Calls.mono (within_any b 2199023255561 (by omega) (by omega) _) ?_
  rintro e w2 ⟨⟨k2, l2, u2, rfl⟩, rfl⟩
  go_wp2_with fail
  have s2 := same_tw (k2 - 1099511627776 - 4) (by omega)
  refine Calls.mono (D _) ?_
  rintro e w3 ⟨rfl, n, rfl⟩
  go_wp2_with fail
  refine Calls.mono (E _) ?_
  rintro e w4 ⟨rfl, rfl⟩
  clear D E
  go_wp2_with fail
  refine Calls.mono (of_any _ _ _) ?_
  rintro e w5 ⟨rfl, rfl⟩
  go_wp2_with fail
  refine Calls.mono (rof_any _ _ _) ?_
  rintro e w6 ⟨rfl, rfl⟩
  go_wp2_with fail
  refine Calls.mono (known_any _) ?_
  rintro e w7 ⟨rfl, m, rfl⟩
  go_wp2
  go_ret
  exact ⟨rfl, _, rfl⟩

theorem drift_low {K r rho : Int} (h0 : 0 ≤ K) (h1 : r ≤ rho) (h2 : 0 ≤ rho) : lowOf (K * (1000 + r)) rho ≤ K * 1000 := by
  unfold lowOf
  refine Int.le_trans (Int.ediv_le_ediv (b := K * 1000 * (1000 + rho)) (by omega) ?_) ?_
  · rw [Int.mul_right_comm K (1000 + r) 1000]
    exact Int.mul_le_mul_of_nonneg_left (by omega) (by omega)
  · rw [Int.mul_ediv_cancel _ (by omega)]
    exact Int.le_refl _
theorem drift_high {K r rho : Int} (h0 : 0 ≤ K) (h1 : -rho ≤ r) (h2 : rho ≤ 500) : K * 1000 ≤ highOf (K * (1000 + r)) rho := by
  unfold highOf
  rw [Int.le_ediv_iff_mul_le (by omega)]
  have : K * 1000 * (1000 - rho) ≤ K * (1000 + r) * 1000 := by
    rw [Int.mul_right_comm K (1000 + r) 1000]
    exact Int.mul_le_mul_of_nonneg_left (by omega) (by omega)
  omega

set_option maxHeartbeats 1000000 in
theorem spanDrift_any (t r rho : Int) (w : World) : Calls Try.prog 6 #[.int .i64 t, .int .i64 r, .int .i64 rho] w fun e w' => e = .returned (.bool true) ∧ ∃ n, w' = w.drewN n := by
  go_enter Try.func6, Try.ntmps6
  go_wp2_with fail
  refine Calls.mono (within_any rho 500 (by omega) (by omega) _) ?_
  rintro e w1 ⟨⟨q, l1, u1, rfl⟩, rfl⟩
  go_wp2_with fail
  refine Calls.mono (within_any r _ (by omega) (by omega) _) ?_
  rintro e w2 ⟨⟨k2, l2, u2, rfl⟩, rfl⟩
  go_wp2_with fail
  have l4 : -q ≤ k2 - q := by omega
  have u4 : k2 - q ≤ q := by omega
  generalize k2 - q = R at *
  clear l2 u2
  refine Calls.mono (within_any t 1000000 (by omega) (by omega) _) ?_
  rintro e w3 ⟨⟨K, l3, u3, rfl⟩, rfl⟩
  have hd : K * 1000 / 1000 = K := Int.mul_ediv_cancel _ (by omega)
  have p1 : 0 ≤ K * (1000 + R) := Int.mul_nonneg l3 (by omega)
  have p2 : K * (1000 + R) ≤ 1000000 * 1500 := Int.mul_le_mul u3 (by omega) (by omega) (by omega)
  have lo := drift_low (K := K) (r := R) (rho := q) l3 u4 l1
  have hi := drift_high (K := K) (r := R) (rho := q) l3 l4 u1
  by_cases hg : K * (1000 + R) > 1073741824
  · go_wp2_with fail
    refine Calls.mono (known_any _) ?_
    rintro e w4 ⟨rfl, n, rfl⟩
    go_wp2
    go_ret
    exact ⟨rfl, _, rfl⟩
  · have hl : K * (1000 + R) ≤ 1073741824 := by omega
    have bl := lowOf_le p1 hl l1 u1
    have bu := highOf_le p1 hl l1 u1
    have LO : Hid (lowOf (K * (1000 + R)) q ≤ K * 1000) := lo
    have HI : Hid (K * 1000 ≤ highOf (K * (1000 + R)) q) := hi
    clear lo hi
    go_wp2_with fail
    refine Calls.mono (drift_yes p1 hl l1 u1 _) ?_
    rintro e w4 ⟨rfl, n, rfl⟩
    go_wp2_with fail
    refine Calls.mono (of_any _ _ _) ?_
    rintro e w5 ⟨rfl, rfl⟩
    go_wp2_with fail
    refine Calls.mono (within_to (a := K * 1000) (b := K * 1000) ⟨by omega, by omega, by omega⟩ ⟨by omega, by have := LO.out; have := HI.out; omega, by omega⟩ ⟨LO.out, HI.out⟩ _) ?_
    rintro e w6 ⟨rfl, rfl⟩
    go_wp2_with fail
    refine Calls.mono (known_any _) ?_
    rintro e w7 ⟨rfl, m, rfl⟩
    go_wp2
    go_ret
    exact ⟨rfl, _, rfl⟩

end Go.Proofs.Ytaacgmogbolakaa
