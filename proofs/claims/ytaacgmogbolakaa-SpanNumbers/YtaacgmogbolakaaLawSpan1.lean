/-
  SpanNumbers: chapter 3's runs: it answers true.
-/
import Derived.Test.YtaacgmogbolakaaFSpan4
namespace Go.Proofs.Ytaacgmogbolakaa
open Go.RowKit

theorem run_archTrunc_half (w : World) : (callFunc 26 #[.float .f64 4602678819172646912]).run Try.prog w = .ok (.value (.float .f64 0)) w := by
  rw [run_callFunc_extern Try.func26 (by kernel_rfl) (by kernel_rfl) (by kernel_rfl) (e := Extern.MathFloor.toIntegral "math.archTrunc" .zero) (by kernel_rfl) _ w]
  kernel_rfl
theorem trunc_half (w : World) : Calls Try.prog 25 #[.float .f64 4602678819172646912] w fun e w' => e = .returned (.float .f64 0) ∧ w' = w := by
  have h := run_archTrunc_half
  go_enter Try.func25, Try.ntmps25
  go_wp2
  go_ret
  exact ⟨rfl, rfl⟩
theorem isTime_half (w : World) : Calls Try.prog 24 #[.float .f64 4602678819172646912] w fun e w' => e = .returned (.bool false) ∧ w' = w := by
  have h1 : (FloatKind.f64.format.order 14010698440749613056 4602678819172646912 == some .lt || FloatKind.f64.format.order 14010698440749613056 4602678819172646912 == some .eq) = true := by kernel_rfl
  have h2 : (FloatKind.f64.format.order 4602678819172646912 4787326403894837248 == some .lt || FloatKind.f64.format.order 4602678819172646912 4787326403894837248 == some .eq) = true := by kernel_rfl
  have h3 : (FloatKind.f64.format.order 4602678819172646912 0 == some .eq) = false := by kernel_rfl
  go_enter Try.func24, Try.ntmps24
  go_wp2_with (go_at_call 25; refine (trunc_half _).mono ?_; rintro e w' ⟨rfl, rfl⟩)
  go_ret
  exact ⟨rfl, rfl⟩
theorem right_half (w : World) : Calls Try.prog 13 #[.complex .f64 4602678819172646912 4607182418800017408] w fun e w' => e = .returned (.bool false) ∧ w' = w := by
  go_enter Try.func13, Try.ntmps13
  go_wp2_with fail
  refine (isTime_half _).mono ?_
  rintro e w' ⟨rfl, rfl⟩
  go_wp2
  go_ret
  exact ⟨rfl, rfl⟩
theorem parts_half (w : World) : Calls Try.prog 12 #[.complex .f64 4602678819172646912 4607182418800017408] w fun e w' => e = .returned (.tuple #[.int .i64 0, .int .i64 0, .bool false]) ∧ w' = w := by
  go_enter Try.func12, Try.ntmps12
  go_wp2_with fail
  refine (right_half _).mono ?_
  rintro e w' ⟨rfl, rfl⟩
  go_wp2
  exact bodyPost_ret (v := .tuple #[.int .i64 0, .int .i64 0, .bool false]) (by simp [results, Try.results12, go_sem]) rfl ⟨rfl, rfl⟩

set_option maxRecDepth 100000 in
set_option maxHeartbeats 2000000 in
theorem spanNumbers_any (w : World) : Calls Try.prog 3 #[] w fun e w' => e = .returned (.bool true) ∧ ∃ n, w' = w.drewN n := by
  have c1 : FloatKind.f64.format.order (tw 4) 4616189618054758400 = some .eq := by kernel_rfl
  have c2 : FloatKind.f64.format.order (tw (lowOf 0 5)) 0 = some .eq := by kernel_rfl
  have c3 : FloatKind.f64.format.order (tw (highOf 0 5)) 0 = some .eq := by kernel_rfl
  have c4 : FloatKind.f64.format.order (tw 1) 4607182418800017408 = some .eq := by kernel_rfl
  have c5 : FloatKind.f64.format.order (tw 9) 4621256167635550208 = some .eq := by kernel_rfl
  go_enter Try.func3, Try.ntmps3
  go_wp2_with fail
  refine Calls.mono (of_any 1 3 _) ?_
  rintro e w1 ⟨rfl, rfl⟩
  go_wp2_with fail
  refine Calls.mono (of_any 4 5 _) ?_
  rintro e w2 ⟨rfl, rfl⟩
  go_wp2_with fail
  refine Calls.mono (meet_no (a := 1) (b := 3) (c := 4) (d := 5) ⟨by decide, by decide, by decide⟩ ⟨by decide, by decide, by decide⟩ (fun h => absurd h.mid (by decide)) _) ?_
  rintro e w3 ⟨rfl, rfl⟩
  go_wp2_with fail
  refine Calls.mono (of_any 1 4 _) ?_
  rintro e w4 ⟨rfl, rfl⟩
  go_wp2_with fail
  refine Calls.mono (of_any 4 5 _) ?_
  rintro e w5 ⟨rfl, rfl⟩
  go_wp2_with fail
  refine Calls.mono (meet_to (a := 1) (b := 4) (c := 4) (d := 5) ⟨by decide, by decide, by decide⟩ ⟨by decide, by decide, by decide⟩ 4 4 rfl rfl ⟨by decide, by decide, by decide⟩ _) ?_
  rintro e w6 ⟨rfl, rfl⟩
  go_wp2_with fail
  refine Calls.mono (drift_yes (dt := 0) (rho := 5) (by decide) (by decide) (by decide) (by decide) _) ?_
  rintro e w7 ⟨rfl, n7, rfl⟩
  go_wp2_with fail
  refine Calls.mono (drift_no (dt := 1073741825) (rho := 0) (by decide) _) ?_
  rintro e w8 ⟨rfl, rfl⟩
  go_wp2_with fail
  refine Calls.mono (drift_no (dt := 5) (rho := 501) (by decide) _) ?_
  rintro e w9 ⟨rfl, rfl⟩
  go_wp2_with fail
  refine Calls.mono (of_any 1099511627776 1099511627776 _) ?_
  rintro e w10 ⟨rfl, rfl⟩
  go_wp2_with fail
  refine Calls.mono (of_any 0 1 _) ?_
  rintro e w11 ⟨rfl, rfl⟩
  go_wp2_with fail
  refine Calls.mono (add_no (a := 1099511627776) (b := 1099511627776) (c := 0) (d := 1) ⟨by decide, by decide, by decide⟩ ⟨by decide, by decide, by decide⟩ (fun h => absurd h.hi (by decide)) _) ?_
  rintro e w12 ⟨rfl, rfl⟩
  go_wp2_with fail
  refine Calls.mono (parts_half _) ?_
  rintro e w13 ⟨rfl, rfl⟩
  go_wp2_with fail
  refine Calls.mono (of_any 3 1 _) ?_
  rintro e w14 ⟨rfl, rfl⟩
  go_wp2_with fail
  refine Calls.mono (right_no (a := 3) (b := 1) (fun h => absurd h.mid (by decide)) (by decide) (by decide) _) ?_
  rintro e w15 ⟨rfl, rfl⟩
  go_wp2_with fail
  refine Calls.mono (of_any (-1099511627776) 1099511627776 _) ?_
  rintro e w16 ⟨rfl, rfl⟩
  go_wp2_with fail
  refine Calls.mono (right_yes (a := -1099511627776) (b := 1099511627776) ⟨by decide, by decide, by decide⟩ _) ?_
  rintro e w17 ⟨rfl, rfl⟩
  go_wp2_with fail
  refine Calls.mono (of_any 0 1099511627777 _) ?_
  rintro e w18 ⟨rfl, rfl⟩
  go_wp2_with fail
  refine Calls.mono (right_no (a := 0) (b := 1099511627777) (fun h => absurd h.hi (by decide)) (by decide) (by decide) _) ?_
  rintro e w19 ⟨rfl, rfl⟩
  go_wp2_with fail
  refine Calls.mono (of_any 1 2 _) ?_
  rintro e w20 ⟨rfl, rfl⟩
  go_wp2_with fail
  refine Calls.mono (of_any 3 4 _) ?_
  rintro e w21 ⟨rfl, rfl⟩
  go_wp2_with fail
  refine Calls.mono (before_to (a := 1) (b := 2) (c := 3) (d := 4) ⟨by decide, by decide, by decide⟩ ⟨by decide, by decide, by decide⟩ true rfl _) ?_
  rintro e w22 ⟨rfl, rfl⟩
  go_wp2_with fail
  refine Calls.mono (of_any 1 3 _) ?_
  rintro e w23 ⟨rfl, rfl⟩
  go_wp2_with fail
  refine Calls.mono (of_any 3 4 _) ?_
  rintro e w24 ⟨rfl, rfl⟩
  go_wp2_with fail
  refine Calls.mono (before_to (a := 1) (b := 3) (c := 3) (d := 4) ⟨by decide, by decide, by decide⟩ ⟨by decide, by decide, by decide⟩ false rfl _) ?_
  rintro e w25 ⟨rfl, rfl⟩
  go_wp2_with fail
  refine Calls.mono (of_any 2 3 _) ?_
  rintro e w26 ⟨rfl, rfl⟩
  go_wp2_with fail
  refine Calls.mono (of_any 1 3 _) ?_
  rintro e w27 ⟨rfl, rfl⟩
  go_wp2_with fail
  refine Calls.mono (within_to (a := 2) (b := 3) (c := 1) (d := 3) ⟨by decide, by decide, by decide⟩ ⟨by decide, by decide, by decide⟩ (by decide) _) ?_
  rintro e w28 ⟨rfl, rfl⟩
  go_wp2_with fail
  refine Calls.mono (of_any 1 2 _) ?_
  rintro e w29 ⟨rfl, rfl⟩
  go_wp2_with fail
  refine Calls.mono (of_any 5 9 _) ?_
  rintro e w30 ⟨rfl, rfl⟩
  go_wp2_with fail
  refine Calls.mono (hull_to (a := 1) (b := 2) (c := 5) (d := 9) ⟨by decide, by decide, by decide⟩ ⟨by decide, by decide, by decide⟩ 1 9 rfl rfl _) ?_
  rintro e w31 ⟨rfl, rfl⟩
  go_wp2_with fail
  refine Calls.mono (known_any _) ?_
  rintro e w32 ⟨rfl, n32, rfl⟩
  go_wp2
  go_ret
  exact ⟨rfl, _, rfl⟩

end Go.Proofs.Ytaacgmogbolakaa
