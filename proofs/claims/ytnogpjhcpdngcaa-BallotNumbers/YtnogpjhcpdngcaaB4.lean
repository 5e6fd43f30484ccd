/-
  The books' Votes: two rows of the same votes are told to be the same.
-/
import Derived.Test.YtnogpjhcpdngcaaB3
namespace Go.Proofs.Ytnogpjhcpdngcaa
open Go.RowKit

set_option maxRecDepth 100000 in
set_option maxHeartbeats 1000000 in
theorem keep_raw {w : World} {a1 a2 : Option Addr} {n c1 c2 : Nat} {xs : List Vo} (h1 : VR w (.slice a1 n c1) xs) (h2 : VR w (.slice a2 n c2) xs) (hn : n = xs.length) (hl : n ≤ 1000000) :
    Calls Try.prog 21 #[.slice a1 n c1, .slice a2 n c2] w fun e w' => e = .returned (.bool true) ∧ ∃ m, w' = w.drewN m := by
  have H1 : Hid (VR w (.slice a1 n c1) xs) := h1
  have H2 : Hid (VR w (.slice a2 n c2) xs) := h2
  have HN : Hid (n = xs.length) := hn
  clear h1 h2 hn
  go_enter Try.func21, Try.ntmps21
  go_wp2
  go_loopw [5] (fun t wr => ∃ k m : Nat, k ≤ n ∧ t = .int .i64 k ∧ wr = w.drewN m) (fun t _ => n - (intOf t).toNat)
  case atStart => exact ⟨0, 0, Nat.zero_le _, rfl, rfl⟩
  case round =>
    obtain ⟨k, m, hk, rfl, rfl⟩ := hrel
    by_cases hlt : k < n
    · obtain ⟨_, _, e1, g1⟩ := H1.out.shape
      obtain ⟨G1, g1⟩ := g1 (by have := HN.out; omega)
      injection e1 with e1 _ _
      subst e1 g1
      obtain ⟨_, _, e2, g2⟩ := H2.out.shape
      obtain ⟨G2, g2⟩ := g2 (by have := HN.out; omega)
      injection e2 with e2 _ _
      subst e2 g2
      have q1 := H1.out.cells k (by have := HN.out; omega)
      have q2 := H2.out.cells k (by have := HN.out; omega)
      obtain ⟨p0, p1, p2, p3⟩ := q1
      obtain ⟨r0, r1, r2, r3⟩ := q2
      generalize xs[k]'(by have := HN.out; omega) = y at *
      have hkl : (k : Int) < (n : Int) := by omega
      have hk0 : (0 : Int) ≤ (k : Int) := by omega
      go_wp2
      go_quiet (fail)
      go_wp2
      go_roundw
      case rel => exact ⟨k + 1, _, by omega, by go_num, rfl⟩
      case measure => simp [intOf]; omega
    · have hkn : k = n := by omega
      subst hkn
      go_wp2
      go_ret
      exact ⟨rfl, _, rfl⟩

theorem keep_same {w : World} {v1 v2 : Value} {xs : List Vo} (h1 : VR w v1 xs) (h2 : VR w v2 xs) (hl : xs.length ≤ 1000000) :
    Calls Try.prog 21 #[v1, v2] w fun e w' => e = .returned (.bool true) ∧ ∃ m, w' = w.drewN m := by
  obtain ⟨a1, c1, rfl, _⟩ := h1.shape
  obtain ⟨a2, c2, rfl, _⟩ := h2.shape
  exact keep_raw h1 h2 rfl hl

end Go.Proofs.Ytnogpjhcpdngcaa
