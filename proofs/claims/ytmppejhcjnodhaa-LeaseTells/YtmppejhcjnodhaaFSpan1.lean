/-
  Spans of whole numbers: what package span answers to them.
-/
import Derived.Test.YtmppejhcjnodhaaRows
import Derived.Test.YtmppejhcjnodhaaFPlain
import Derived.WalkKit
import Derived.WalkSpells
import Derived.WalkLawsBesides
import Derived.Laws.Externs
import Derived.Deep.QuietTactic
import Derived.BigQuiet
import Derived.KernelRfl
namespace Go.Proofs.Ytmppejhcjnodhaa
open Go.RowKit

/-- A right span of whole numbers. -/
structure Rt (a b : Int) : Prop where
  lo : -1099511627776 ≤ a
  mid : a ≤ b
  hi : b ≤ 1099511627776

theorem tw_low : tw (-1099511627776) = 14010698440749613056 := by kernel_rfl
theorem tw_high : tw 1099511627776 = 4787326403894837248 := by kernel_rfl
theorem tw_nought : tw 0 = 0 := by kernel_rfl

theorem leq_tw (a b : Int) (ha : a.natAbs < 2 ^ 53) (hb : b.natAbs < 2 ^ 53) : (FloatKind.f64.format.order (tw a) (tw b) == some .lt || FloatKind.f64.format.order (tw a) (tw b) == some .eq) = decide (a ≤ b) := by
  rw [order_tw a b ha hb]
  rcases Int.lt_trichotomy a b with h | h | h
  · rw [Int.compare_eq_lt.2 h]; simp; omega
  · rw [Int.compare_eq_eq.2 h]; simp; omega
  · rw [Int.compare_eq_gt.2 h]; simp; omega
theorem lss_tw (a b : Int) (ha : a.natAbs < 2 ^ 53) (hb : b.natAbs < 2 ^ 53) : (FloatKind.f64.format.order (tw a) (tw b) == some .lt) = decide (a < b) := by
  rw [order_tw a b ha hb]
  rcases Int.lt_trichotomy a b with h | h | h
  · rw [Int.compare_eq_lt.2 h]; simp; omega
  · rw [Int.compare_eq_eq.2 h]; simp; omega
  · rw [Int.compare_eq_gt.2 h]; simp; omega
theorem eql_tw (a b : Int) (ha : a.natAbs < 2 ^ 53) (hb : b.natAbs < 2 ^ 53) : (FloatKind.f64.format.order (tw a) (tw b) == some .eq) = decide (a = b) := by
  rw [order_tw a b ha hb]
  rcases Int.lt_trichotomy a b with h | h | h
  · rw [Int.compare_eq_lt.2 h]; simp; omega
  · rw [Int.compare_eq_eq.2 h]; simp; omega
  · rw [Int.compare_eq_gt.2 h]; simp; omega
theorem low_tw (a : Int) (ha : a.natAbs < 2 ^ 53) : (FloatKind.f64.format.order 14010698440749613056 (tw a) == some .lt || FloatKind.f64.format.order 14010698440749613056 (tw a) == some .eq) = decide (-1099511627776 ≤ a) := by
  rw [← tw_low]; exact leq_tw _ _ (by decide) ha
theorem high_tw (a : Int) (ha : a.natAbs < 2 ^ 53) : (FloatKind.f64.format.order (tw a) 4787326403894837248 == some .lt || FloatKind.f64.format.order (tw a) 4787326403894837248 == some .eq) = decide (a ≤ 1099511627776) := by
  rw [← tw_high]; exact leq_tw _ _ ha (by decide)

theorem run_archTrunc (a : Int) (ha : a.natAbs < 2 ^ 53) (w : World) : (callFunc 73 #[.float .f64 (tw a)]).run Try.prog w = .ok (.value (.float .f64 (tw a))) w := by
  rw [run_callFunc_extern Try.func73 (by kernel_rfl) (by kernel_rfl) (by kernel_rfl) (e := Extern.MathFloor.toIntegral "math.archTrunc" .zero) (by kernel_rfl) _ w]
  have h : (Extern.MathFloor.toIntegral "math.archTrunc" .zero #[.float .f64 (tw a)]).run Try.prog w = .ok (.float .f64 (tw a)) w := by
    obtain ⟨k, hk⟩ := read_tw a ha
    have ht := trunc_tw a ha
    have hd : FloatKind.f64.decode (tw a) = .number (decide (a < 0)) (a.natAbs * 2 ^ k) (-(k : Int)) := hk
    rw [hd] at ht
    change Sem.run Try.prog (Extern.MathFloor.toIntegral.match_1 (motive := fun _ => Sem Value) (FloatKind.f64.decode (tw a)) (fun _ _ => _) (fun d => pure (.float .f64 (FloatKind.f64.encode (d.integral .zero))))) w = _
    rw [hd]
    change Sem.run Try.prog (pure (Value.float .f64 (FloatKind.f64.encode (Ieee.Datum.integral .zero (.number (decide (a < 0)) (a.natAbs * 2 ^ k) (-(k : Int))))))) w = _
    rw [ht]
    rfl
  rw [h]
  rfl

theorem trunc_any (a : Int) (ha : a.natAbs < 2 ^ 53) (w : World) : Calls Try.prog 71 #[.float .f64 (tw a)] w fun e w' => e = .returned (.float .f64 (tw a)) ∧ w' = w := by
  have h := run_archTrunc a ha
  go_enter Try.func71, Try.ntmps71
  go_wp2
  go_ret
  exact ⟨rfl, rfl⟩

theorem isTime_any (a : Int) (ha : a.natAbs < 2 ^ 53) (w : World) : Calls Try.prog 65 #[.float .f64 (tw a)] w fun e w' => e = .returned (.bool (decide (-1099511627776 ≤ a ∧ a ≤ 1099511627776))) ∧ w' = w := by
  have h1 := low_tw a ha
  have h2 := high_tw a ha
  have h3 := eql_tw a a ha ha
  by_cases c1 : -1099511627776 ≤ a <;> by_cases c2 : a ≤ 1099511627776
  all_goals
    simp only [c1, c2, decide_true, decide_false, and_true, and_false] at h1 h2 h3 ⊢
    go_enter Try.func65, Try.ntmps65
    go_wp2_with (go_at_call 71; refine (trunc_any a ha _).mono ?_; rintro e w' ⟨rfl, rfl⟩)
    go_ret
    exact ⟨rfl, rfl⟩

end Go.Proofs.Ytmppejhcjnodhaa
