/-
  Package lease's reckoning: times, drifts, Hold, Bar.
-/
import Derived.Test.YtmppejhcjnodhaaGPlain
import Derived.Test.YtmppejhcjnodhaaFSpan4
import Derived.Test.YtmppejhcjnodhaaSB
namespace Go.Proofs.Ytmppejhcjnodhaa
open Go.RowKit

theorem isTm_any (n : Int) (w : World) : Calls Try.prog 28 #[.int .i64 n] w fun e w' => e = .returned (.bool (decide (Tm n))) ∧ w' = w := by
  unfold Tm
  by_cases c1 : 0 ≤ n <;> by_cases c2 : n ≤ 1073741824
  all_goals
    simp only [c1, c2, decide_true, decide_false, and_true, and_false]
    go_enter Try.func28, Try.ntmps28
    go_wp2
    go_ret
    exact ⟨rfl, rfl⟩
theorem isDrift_any (n : Int) (w : World) : Calls Try.prog 27 #[.int .i64 n] w fun e w' => e = .returned (.bool (decide (Dr n))) ∧ w' = w := by
  unfold Dr
  by_cases c1 : 0 ≤ n <;> by_cases c2 : n ≤ 500
  all_goals
    simp only [c1, c2, decide_true, decide_false, and_true, and_false]
    go_enter Try.func27, Try.ntmps27
    go_wp2
    go_ret
    exact ⟨rfl, rfl⟩

theorem wrap_ok {x : Int} (h1 : -9223372036854775808 ≤ x) (h2 : x ≤ 9223372036854775807) : IntKind.i64.wrap x = x := by
  simp [IntKind.wrap, IntKind.bits, IntKind.signed]; omega

theorem up_any (n b : Int) (h0 : 0 ≤ n) (h1 : n ≤ 4611686018427387904) (h2 : 1 ≤ b) (h3 : b ≤ 1000000) (w : World) :
    Calls Try.prog 44 #[.int .i64 n, .int .i64 b] w fun e w' => e = .returned (.int .i64 ((n + b - 1) / b)) ∧ w' = w := by
  have z1 : (b == 0) = false := by simp; omega
  have y1 : ¬ (b = 0) := by omega
  have x1 : ¬ (b = -1) := by omega
  go_enter Try.func44, Try.ntmps44
  go_wp2
  go_ret
  exact ⟨rfl, rfl⟩

theorem sure_any (n : Int) (w : World) : Calls Try.prog 31 #[.int .i64 n] w fun e w' => e = .returned (.complex .f64 (tw n) (tw n)) ∧ w' = w := by
  go_enter Try.func31, Try.ntmps31
  go_wp2_with fail
  refine (of_any n n w).mono ?_
  rintro e w' ⟨rfl, rfl⟩
  go_wp2
  go_ret
  exact ⟨rfl, rfl⟩

theorem shown_any (b r : Int) (hb : Tm b) (hr : Dr r) (w : World) : Calls Try.prog 51 #[.int .i64 b, .int .i64 r] w fun e w' => e = .returned (.complex .f64 (tw (least b r)) (tw (most b r))) ∧ w' = w := by
  obtain ⟨r0, r1⟩ := hr
  obtain ⟨l0, l1⟩ := hb
  have p1 := prod_le (n := 1000) l0 (show (0 : Int) ≤ 1000 - r by omega) l1 (by omega)
  have p2 := prod_le (n := 1500) l0 (show (0 : Int) ≤ 1000 + r by omega) l1 (by omega)
  have c1 := up_any (b * (1000 - r)) 1000 p1.1 (by omega) (by omega) (by omega) w
  have e1 : least b r = (b * (1000 - r) + 1000 - 1) / 1000 := rfl
  have e2 : most b r = b * (1000 + r) / 1000 := rfl
  rw [← e1] at c1
  rw [e2]
  clear e1 e2
  have w1 : IntKind.i64.wrap (b * (1000 - r)) = b * (1000 - r) := wrap_ok (by omega) (by omega)
  have w2 : IntKind.i64.wrap (b * (1000 + r)) = b * (1000 + r) := wrap_ok (by omega) (by omega)
  generalize least b r = L at *
  go_enter Try.func51, Try.ntmps51
  go_wp2_with fail
  refine c1.mono ?_
  rintro e w' ⟨rfl, rfl⟩
  go_wp2_with fail
  refine (of_any _ _ w').mono ?_
  rintro e w' ⟨rfl, rfl⟩
  go_wp2
  go_ret
  exact ⟨rfl, rfl⟩

set_option maxHeartbeats 1000000 in
theorem byAnother_any (b r : Int) (hb : Tm b) (hr : Dr r) (w : World) : Calls Try.prog 30 #[.int .i64 b, .int .i64 r] w fun e w' => e = .returned (.complex .f64 (tw (share b r)) (tw (longest b r))) ∧ ∃ n, w' = w.drewN n := by
  obtain ⟨r0, r1⟩ := hr
  obtain ⟨l0, l1⟩ := hb
  have p1 := prod_le (n := 1000) l0 (show (0 : Int) ≤ 1000 - r by omega) l1 (by omega)
  have p2 := prod_le (n := 1500) l0 (show (0 : Int) ≤ 1000 + r by omega) l1 (by omega)
  have c1 := fun W => up_any (b * (1000 + r)) (1000 - r) p2.1 (by omega) (by omega) (by omega) W
  have e1 : longest b r = (b * (1000 + r) + (1000 - r) - 1) / (1000 - r) := rfl
  have e2 : share b r = b * (1000 - r) / (1000 + r) := rfl
  rw [← e1] at c1
  rw [e2]
  clear e1 e2
  have w1 : IntKind.i64.wrap (b * (1000 - r)) = b * (1000 - r) := wrap_ok (by omega) (by omega)
  have w2 : IntKind.i64.wrap (b * (1000 + r)) = b * (1000 + r) := wrap_ok (by omega) (by omega)
  have z1 : (1000 + r == 0) = false := by simp; omega
  have y1 : ¬ (1000 + r = 0) := by omega
  have x1 : ¬ (1000 + r = -1) := by omega
  generalize longest b r = L at *
  go_enter Try.func30, Try.ntmps30
  go_wp2
  go_quiet (first | (go_at_call 44; exact Calls.quiet_of_same (c1 _)) | (go_at_call 43; exact Calls.quiet_of_same (of_any _ _ _)))
  go_wp2
  go_ret
  exact ⟨rfl, _, rfl⟩

theorem earliest_any (n a b : Int) (hn : Tm n) (h : Rt a b) (hb : b ≤ 4294967296) (ha : 0 ≤ a) (w : World) :
    Calls Try.prog 29 #[.int .i64 n, .complex .f64 (tw a) (tw b)] w fun e w' => e = .returned (.int .i64 (n + a)) ∧ w' = w := by
  obtain ⟨n0, n1⟩ := hn
  have hm := h.mid
  have r1 : Rt n n := ⟨by omega, by omega, by omega⟩
  have r2 : Rt (n + a) (n + b) := ⟨by omega, by omega, by omega⟩
  have c1 := fun W => add_yes r1 h r2 W
  have c2 := fun W => parts_yes r2 W
  clear r1 r2 h hm hb ha n0 n1
  generalize n + a = x at *
  generalize n + b = y at *
  go_enter Try.func29, Try.ntmps29
  go_wp2_with fail
  refine (sure_any n w).mono ?_
  rintro e w' ⟨rfl, rfl⟩
  go_wp2_with fail
  refine (c1 _).mono ?_
  rintro e w' ⟨rfl, rfl⟩
  go_wp2_with fail
  refine (c2 _).mono ?_
  rintro e w' ⟨rfl, rfl⟩
  go_wp2
  go_ret
  exact ⟨rfl, rfl⟩

theorem bar_yes (n l : Int) (hn : Tm n) (hl : Tm l) (w : World) : Calls Try.prog 11 #[.int .i64 n, .int .i64 l] w fun e w' => e = .returned (.tuple #[.int .i64 (n + l), .int .i64 0]) ∧ w' = w := by
  have i1 := isTm_any n w
  have i2 := isTm_any l w
  rw [decide_eq_true hn] at i1
  rw [decide_eq_true hl] at i2
  have r : Rt l l := ⟨by have := hl.1; omega, by omega, by have := hl.2; omega⟩
  have c := fun W => earliest_any n l l hn r (by have := hl.2; omega) hl.1 W
  clear r hn hl
  generalize n + l = x at *
  go_enter Try.func11, Try.ntmps11
  go_wp2_with fail
  refine i1.mono ?_
  rintro e w' ⟨rfl, rfl⟩
  go_wp2_with fail
  refine i2.mono ?_
  rintro e w' ⟨rfl, rfl⟩
  go_wp2_with fail
  refine (sure_any l w').mono ?_
  rintro e w' ⟨rfl, rfl⟩
  go_wp2_with fail
  refine (c _).mono ?_
  rintro e w' ⟨rfl, rfl⟩
  go_wp2
  go_ret2
  exact ⟨rfl, rfl⟩
theorem bar_no (n l : Int) (h : ¬ (Tm n ∧ Tm l)) (w : World) : Calls Try.prog 11 #[.int .i64 n, .int .i64 l] w fun e w' => e = .returned (.tuple #[.int .i64 0, .int .i64 1]) ∧ w' = w := by
  have i1 := isTm_any n w
  have i2 := isTm_any l w
  by_cases hn : Tm n
  · have hl : ¬ Tm l := fun hl => h ⟨hn, hl⟩
    rw [decide_eq_true hn] at i1
    rw [decide_eq_false hl] at i2
    clear h hn hl
    go_enter Try.func11, Try.ntmps11
    go_wp2_with fail
    refine i1.mono ?_
    rintro e w' ⟨rfl, rfl⟩
    go_wp2_with fail
    refine i2.mono ?_
    rintro e w' ⟨rfl, rfl⟩
    go_wp2
    go_ret2
    exact ⟨rfl, rfl⟩
  · rw [decide_eq_false hn] at i1
    clear h hn i2
    go_enter Try.func11, Try.ntmps11
    go_wp2_with fail
    refine i1.mono ?_
    rintro e w' ⟨rfl, rfl⟩
    go_wp2
    go_ret2
    exact ⟨rfl, rfl⟩

theorem hold_yes (n l r : Int) (hn : Tm n) (hl : Tm l) (hr : Dr r) (w : World) : Calls Try.prog 10 #[.int .i64 n, .int .i64 l, .int .i64 r] w fun e w' => e = .returned (.tuple #[.int .i64 (n + share l r), .int .i64 0]) ∧ ∃ k, w' = w.drewN k := by
  have i1 := isTm_any n w
  have i2 := isTm_any l w
  have i3 := isDrift_any r w
  rw [decide_eq_true hn] at i1
  rw [decide_eq_true hl] at i2
  rw [decide_eq_true hr] at i3
  have c1 := fun W => byAnother_any l r hl hr W
  have s1 := share_le hl.1 hr
  have s2 := longest_le hl hr
  have r : Rt (share l r) (longest l r) := ⟨by omega, by omega, by omega⟩
  have c := fun W => earliest_any n _ _ hn r (by omega) s1.1 W
  clear r hn hl hr s1 s2
  generalize n + share l r = x at *
  generalize tw (share l r) = y at *
  generalize tw (longest l r) = z at *
  go_enter Try.func10, Try.ntmps10
  go_wp2_with fail
  refine i1.mono ?_
  rintro e w' ⟨rfl, rfl⟩
  go_wp2_with fail
  refine i2.mono ?_
  rintro e w' ⟨rfl, rfl⟩
  go_wp2_with fail
  refine i3.mono ?_
  rintro e w' ⟨rfl, rfl⟩
  go_wp2_with fail
  refine (c1 _).mono ?_
  rintro e w1 ⟨rfl, k, rfl⟩
  go_wp2_with fail
  refine (c _).mono ?_
  rintro e w1 ⟨rfl, rfl⟩
  go_wp2
  go_ret2
  exact ⟨rfl, _, rfl⟩
theorem hold_no (n l r : Int) (h : ¬ (Tm n ∧ Tm l ∧ Dr r)) (w : World) : Calls Try.prog 10 #[.int .i64 n, .int .i64 l, .int .i64 r] w fun e w' => e = .returned (.tuple #[.int .i64 0, .int .i64 1]) ∧ w' = w := by
  have i1 := isTm_any n w
  have i2 := isTm_any l w
  have i3 := isDrift_any r w
  by_cases hn : Tm n
  · rw [decide_eq_true hn] at i1
    by_cases hl : Tm l
    · have hr : ¬ Dr r := fun hr => h ⟨hn, hl, hr⟩
      rw [decide_eq_true hl] at i2
      rw [decide_eq_false hr] at i3
      clear h hn hl hr
      go_enter Try.func10, Try.ntmps10
      go_wp2_with fail
      refine i1.mono ?_
      rintro e w' ⟨rfl, rfl⟩
      go_wp2_with fail
      refine i2.mono ?_
      rintro e w' ⟨rfl, rfl⟩
      go_wp2_with fail
      refine i3.mono ?_
      rintro e w' ⟨rfl, rfl⟩
      go_wp2
      go_ret2
      exact ⟨rfl, rfl⟩
    · rw [decide_eq_false hl] at i2
      clear h hn hl i3
      go_enter Try.func10, Try.ntmps10
      go_wp2_with fail
      refine i1.mono ?_
      rintro e w' ⟨rfl, rfl⟩
      go_wp2_with fail
      refine i2.mono ?_
      rintro e w' ⟨rfl, rfl⟩
      go_wp2
      go_ret2
      exact ⟨rfl, rfl⟩
  · rw [decide_eq_false hn] at i1
    clear h hn i2 i3
    go_enter Try.func10, Try.ntmps10
    go_wp2_with fail
    refine i1.mono ?_
    rintro e w' ⟨rfl, rfl⟩
    go_wp2
    go_ret2
    exact ⟨rfl, rfl⟩

end Go.Proofs.Ytmppejhcjnodhaa
