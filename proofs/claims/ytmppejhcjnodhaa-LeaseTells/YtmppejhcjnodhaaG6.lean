/-
  Fair of any readings.
-/
import Derived.Test.YtmppejhcjnodhaaG5
namespace Go.Proofs.Ytmppejhcjnodhaa
open Go.RowKit

set_option maxHeartbeats 1000000 in
theorem fair_any {w : World} {ao : Option Addr} {n cap : Nat} {xs : List (Int × Int)} (hl : xs.length = n) (h : Rd w ao xs) (hn : ao = none → cap = 0 ∧ xs = []) (hm : n ≤ 1000) (r : Int) :
    Calls Try.prog 16 #[.slice ao n cap, .int .i64 r] w fun e w' => e = .returned (.bool (decide (Fr xs r))) ∧ Kept (fun _ => True) w w' := by
  by_cases hr : Dr r
  · by_cases hA : AllTm xs
    · have e : decide (Fr xs r) = decide (Fairly r xs) := by
        simp only [decide_eq_decide]
        exact ⟨fun q => q.2.2, fun q => ⟨hr, hA, q⟩⟩
      rw [e]
      exact fair_yes hl h hn hm r hr hA
    · rw [decide_eq_false (fun q : Fr xs r => hA q.2.1)]
      have i1 := isDrift_any r w
      rw [decide_eq_true hr] at i1
      have i2 := contains_any (cap := cap) h (by omega)
      rw [decide_eq_false hA, hl] at i2
      clear h hn hl hA hr
      go_enter Try.func16, Try.ntmps16
      go_wp2_with fail
      refine i1.mono ?_
      rintro e w ⟨rfl, rfl⟩
      go_wp2_with fail
      refine i2.mono ?_
      rintro e w1 ⟨rfl, k1⟩
      go_wp2
      go_ret
      exact ⟨rfl, k1⟩
  · rw [decide_eq_false (fun q : Fr xs r => hr q.1)]
    have i1 := isDrift_any r w
    rw [decide_eq_false hr] at i1
    clear h hn hl hr
    go_enter Try.func16, Try.ntmps16
    go_wp2_with fail
    refine i1.mono ?_
    rintro e w ⟨rfl, rfl⟩
    go_wp2
    go_ret
    exact ⟨rfl, Kept.refl _ _⟩

/-- The answer given outright. -/
theorem fair_to {w : World} {ao : Option Addr} {n cap : Nat} (xs : List (Int × Int)) (hl : xs.length = n) (h : Rd w ao xs) (hn : ao = none → cap = 0 ∧ xs = []) (hm : n ≤ 1000) (r : Int) (q : Bool) (hq : decide (Fr xs r) = q) :
    Calls Try.prog 16 #[.slice ao n cap, .int .i64 r] w fun e w' => e = .returned (.bool q) ∧ Kept (fun _ => True) w w' := by
  subst hq
  exact fair_any hl h hn hm r

end Go.Proofs.Ytmppejhcjnodhaa
