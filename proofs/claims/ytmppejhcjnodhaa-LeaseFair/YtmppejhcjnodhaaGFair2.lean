/-
  Clocks, plainly: one that goes at a rate is fair; one that jumps is not.
-/
import Derived.Test.YtmppejhcjnodhaaGFair
namespace Go.Proofs.Ytmppejhcjnodhaa

/-- Readings of a clock that goes at one rate. -/
def AtRate (rate start : Int) (xs : List (Int × Int)) : Prop := ∀ x ∈ xs, ∃ t : Int, 0 ≤ t ∧ t ≤ 1000 ∧ x = (1000 * t, start + rate * t)

theorem rate_fair {r rate start : Int} {xs : List (Int × Int)} (hr : Dr r) (h1 : 1000 - r ≤ rate) (h2 : rate ≤ 1000 + r) (s0 : 0 ≤ start) (s1 : start ≤ 1000) (h : AtRate rate start xs) : Fr xs r := by
  refine ⟨hr, fun x hx => ?_, fun x hx y hy hxy => ?_⟩
  · obtain ⟨r0, r1⟩ := hr
    obtain ⟨t, t0, t1, rfl⟩ := h x hx
    have p := prod_le (n := 1000) (show (0 : Int) ≤ rate by omega) t0 (show rate ≤ 1500 by omega) t1
    exact ⟨⟨by simp only; omega, by simp only; omega⟩, ⟨by simp only; omega, by simp only; omega⟩⟩
  · obtain ⟨t, _, _, rfl⟩ := h x hx
    obtain ⟨u, _, _, rfl⟩ := h y hy
    simp only at hxy
    have hd : 0 ≤ t - u := by omega
    have e1 : (1000 - r) * (t - u) ≤ rate * (t - u) := Int.mul_le_mul_of_nonneg_right h1 hd
    have e2 : rate * (t - u) ≤ (1000 + r) * (t - u) := Int.mul_le_mul_of_nonneg_right h2 hd
    have e3 : 1000 * t - 1000 * u = 1000 * (t - u) := by omega
    have e4 : start + rate * t - (start + rate * u) = rate * (t - u) := by rw [Int.mul_sub]; omega
    unfold Goes
    simp only
    rw [e3, e4, Int.mul_left_comm (1000 - r), Int.mul_left_comm (1000 + r)]
    omega
theorem AtRate.tail {rate start : Int} {xs : List (Int × Int)} (h : AtRate rate start xs) : AtRate rate start xs.tail := fun x hx => h x (List.mem_of_mem_tail hx)
theorem AtRate.snoc {rate start : Int} {xs : List (Int × Int)} (h : AtRate rate start xs) {t : Int} (t0 : 0 ≤ t) (t1 : t ≤ 1000) : AtRate rate start (xs ++ [(1000 * t, start + rate * t)]) := fun x hx => by
  rcases List.mem_append.1 hx with q | q
  · exact h x q
  · exact ⟨t, t0, t1, List.mem_singleton.1 q⟩

theorem jump_not {r a b j : Int} {xs : List (Int × Int)} (hx : (a, b) ∈ xs) (hj : 0 ≤ j) : ¬ Fr (xs ++ [(a, b + 1 + j)]) r := by
  intro h
  have q := h.2.2 (a, b + 1 + j) (by simp) (a, b) (List.mem_append_left _ hx) (Int.le_refl _)
  unfold Goes at q
  simp only [Int.sub_self, Int.mul_zero] at q
  omega

end Go.Proofs.Ytmppejhcjnodhaa
