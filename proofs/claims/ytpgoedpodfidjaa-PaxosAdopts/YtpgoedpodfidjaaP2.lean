/-
  OnesCount, most, Led.
-/
import Derived.Test.YtpgoedpodfidjaaP1
namespace Go.Proofs.Ytpgoedpodfidjaa
open Go.RowKit

def onesA (m : Nat) : Int := IntKind.u64.wrap (bits .and .u64 ((m : Int) / 2) 6148914691236517205 + bits .and .u64 (m : Int) 6148914691236517205)
def onesB (y : Int) : Int := IntKind.u64.wrap (bits .and .u64 (y / 4) 3689348814741910323 + bits .and .u64 y 3689348814741910323)
def onesC (y : Int) : Int := bits .and .u64 (IntKind.u64.wrap (y / 16 + y)) 1085102592571150095
def onesD (d y : Int) : Int := IntKind.u64.wrap (y + y / d)
def onesE (m : Nat) : Int := bits .and .i64 (wrap64 (onesD 4294967296 (onesD 65536 (onesD 256 (onesC (onesB (onesA m))))))) 127
theorem onesE_ones : ∀ m : Nat, m < 32 → onesE m = (ones m : Int) := by decide +kernel

set_option maxHeartbeats 1000000 in
theorem ones64_any {w : World} {m : Nat} (hm : m < 32) :
    Calls Try.prog 38 #[.int .u64 m] w fun e w' => e = .returned (.int .i64 (ones m)) ∧ w' = w := by
  go_enter Try.func38, Try.ntmps38
  go_wp2
  go_ret
  exact ⟨congrArg (fun z : Int => Ending.returned (Value.int .i64 z)) (onesE_ones m hm), rfl⟩

set_option maxHeartbeats 1000000 in
theorem onesCount_any {w : World} {m : Nat} (hm : m < 32) :
    Calls Try.prog 36 #[.int .u64 m] w fun e w' => e = .returned (.int .i64 (ones m)) ∧ w' = w := by
  have c := fun W => ones64_any (w := W) hm
  go_enter Try.func36, Try.ntmps36
  go_wp2_with (go_at_call 38; refine Calls.mono (c _) ?_; rintro e _ ⟨rfl, rfl⟩)
  go_ret
  exact ⟨rfl, rfl⟩

theorem ones_le (m : Nat) : ones m ≤ 5 := by
  unfold ones
  exact Nat.le_trans (List.length_filter_le _ _) (by simp)

set_option maxHeartbeats 1000000 in
theorem most_any {w : World} {P n : Nat} {v : Value} {x : Pr} (h : Po w P v n x) {m : Nat} (hm : m < 32) :
    Calls Try.prog 30 #[.pointer (some ⟨P, 0, none⟩), .int .u64 m] w fun e w' => e = .returned (.bool (x.most m)) ∧ ∃ k, w' = w.drewN k := by
  obtain ⟨c0, c1, c2, c3, c4, c5, c6, c7, cf⟩ := ocell h.self
  have c := fun W => onesCount_any (w := W) hm
  have lt := h.lt
  have ho := ones_le m
  have hl : Hid (x.most m = decide (x.nodes < 2 * ones m)) := rfl
  clear h c0 c2 c3 c4 c5 c6 c7 cf
  generalize ones m = o at *
  go_enter Try.func30, Try.ntmps30
  go_wp2_with fail
  go_quiet (refine Calls.quiet_of_same (c _))
  go_wp2
  go_ret
  refine ⟨?_, nq, rfl⟩
  have e : decide ((x.nodes : Int) < 2 * (o : Int)) = decide (x.nodes < 2 * o) := by
    simp only [decide_eq_decide]
    omega
  rw [hl.out, ← e]
  rfl

set_option maxHeartbeats 1000000 in
theorem led_any {w : World} {P n : Nat} {v : Value} {x : Pr} (h : Po w P v n x) :
    Calls Try.prog 13 #[.pointer (some ⟨P, 0, none⟩)] w fun e w' => e = .returned (.bool x.led) ∧ ∃ k, w' = w.drewN k := by
  obtain ⟨c0, c1, c2, c3, c4, c5, c6, c7, cf⟩ := ocell h.self
  have c := most_any h h.ok.prom
  have lt := h.lt
  clear h c0 c1 c2 c3 c4 c5 c7 cf
  go_enter Try.func13, Try.ntmps13
  go_wp2_with (go_at_call 30; refine Calls.mono c ?_; rintro e _ ⟨rfl, k, rfl⟩)
  go_ret
  exact ⟨rfl, k, rfl⟩

end Go.Proofs.Ytpgoedpodfidjaa
