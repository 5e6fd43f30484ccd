/-
  Fair of any readings.
-/
import Derived.Test.YtmppejhcjnodhaaG5
namespace Go.Proofs.Ytmppejhcjnodhaa
open Go.RowKit

set_option maxHeartbeats 1000000 in
theorem fair_to {w : World} {ao : Option Addr} {n cap : Nat} (xs : List (Int × Int)) (hl : xs.length = n) (h : Rd w ao xs) (hn : ao = none → cap = 0 ∧ xs = []) (hm : n ≤ 1000) (r : Int) (q : Bool) (hq : q = true ↔ Fr xs r) :
    Calls Try.prog 16 #[.slice ao n cap, .int .i64 r] w fun e w' => e = .returned (.bool q) ∧ Kept (fun _ => True) w w' := by
  by_cases hr : Dr r
  · by_cases hA : AllTm xs
    · exact fair_yes hl h hn hm r hr hA q (hq.trans ⟨fun k => k.2.2, fun k => ⟨hr, hA, k⟩⟩)
    · rw [tells_no hq (fun k => hA k.2.1)]
      have i1 := isDrift_any r w
      rw [decide_eq_true hr] at i1
      have i2 := contains_any (cap := cap) h (by omega) false (false_tells hA)
      rw [hl] at i2
      clear h hn hl hA hr hq
      go_enter Try.func16, Try.ntmps16
      go_wp2_with fail
      refine i1.mono ?_
      rintro e w ⟨rfl, rfl⟩
      go_wp2_with fail
      refine i2.mono ?_
      rintro e w1 ⟨rfl, k1⟩
      go_wp2
      go_ret
      exact ⟨rfl, k1⟩
  · rw [tells_no hq (fun k => hr k.1)]
    have i1 := isDrift_any r w
    rw [decide_eq_false hr] at i1
    clear h hn hl hr hq
    go_enter Try.func16, Try.ntmps16
    go_wp2_with fail
    refine i1.mono ?_
    rintro e w ⟨rfl, rfl⟩
    go_wp2
    go_ret
    exact ⟨rfl, Kept.refl _ _⟩

end Go.Proofs.Ytmppejhcjnodhaa
