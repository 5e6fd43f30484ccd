/-
  LeaseSafe: as long as the holder may answer, by its clock, the granter bars everybody else, by its own.
-/
import Derived.Test.YtmppejhcjnodhaaG2
import Derived.Test.YtmppejhcjnodhaaGSafe
namespace Go.Proofs.Ytmppejhcjnodhaa
open Go.RowKit

set_option maxRecDepth 100000 in
set_option maxHeartbeats 4000000 in
theorem leaseSafe_any (a0 a1 a2 a3 a4 a5 a6 : Int) {w : World} : Calls Try.prog 6 #[.int .i64 a0, .int .i64 a1, .int .i64 a2, .int .i64 a3, .int .i64 a4, .int .i64 a5, .int .i64 a6] w fun e w' => e = .returned (.bool true) ∧ Kept (fun _ => True) w w' := by
  go_enter Try.func6, Try.ntmps6
  go_wp2_with fail
  refine (within_any a0 500 (by omega) (by omega) _).mono ?_
  rintro e w ⟨⟨r, r0, r1, rfl⟩, rfl⟩
  go_wp2_with fail
  refine (within_any a1 (2 * r) (by omega) (by omega) _).mono ?_
  rintro e w ⟨⟨x1, x10, x11, rfl⟩, rfl⟩
  go_wp2_with fail
  refine (within_any a2 (2 * r) (by omega) (by omega) _).mono ?_
  rintro e w ⟨⟨x2, x20, x21, rfl⟩, rfl⟩
  go_wp2_with fail
  have o0 : 1000 - r ≤ 1000 + x1 - r ∧ 1000 + x1 - r ≤ 1000 + r := by omega
  have o1 : 1000 - r ≤ 1000 + x2 - r ∧ 1000 + x2 - r ≤ 1000 + r := by omega
  generalize 1000 + x1 - r = one at *
  generalize 1000 + x2 - r = two at *
  clear x10 x11 x20 x21
  refine (within_any a3 1000 (by omega) (by omega) _).mono ?_
  rintro e w ⟨⟨ask, k0, k1, rfl⟩, rfl⟩
  go_wp2_with fail
  refine (within_any a4 300 (by omega) (by omega) _).mono ?_
  rintro e w ⟨⟨x3, x30, x31, rfl⟩, rfl⟩
  go_wp2_with fail
  have t0 : ask ≤ ask + x3 ∧ ask + x3 ≤ 1300 := by omega
  generalize ask + x3 = t at *
  clear x30 x31
  refine (within_any a5 100000 (by omega) (by omega) _).mono ?_
  rintro e w ⟨⟨len, l0, l1, rfl⟩, rfl⟩
  have hr : Hid (Dr r) := ⟨r0, r1⟩
  have p1 := prod_le (n := 1500) k0 (show (0 : Int) ≤ one by omega) k1 (by omega)
  have p2 := prod_le (n := 1500) (show (0 : Int) ≤ t by omega) (show (0 : Int) ≤ two by omega) t0.2 (by omega)
  have W1 : IntKind.i64.wrap (ask * one) = ask * one := wrap_ok (by omega) (by omega)
  have W2 : IntKind.i64.wrap (t * two) = t * two := wrap_ok (by omega) (by omega)
  have sh := share_le l0 hr.out
  have c1 := hold_yes (ask * one) len r ⟨by omega, by omega⟩ ⟨l0, by omega⟩ hr.out w
  obtain ⟨H, hH⟩ : ∃ H, Hid (H = ask * one + share len r) := ⟨_, rfl⟩
  rw [← hH.out] at c1
  obtain ⟨P, hP⟩ : ∃ P, Hid (P = ask * one) := ⟨_, rfl⟩
  obtain ⟨Q, hQ⟩ : ∃ Q, Hid (Q = t * two) := ⟨_, rfl⟩
  have Q0 : 0 ≤ Q ∧ Q ≤ 1950000 := by rw [hQ.out]; omega
  rw [← hP.out] at c1 W1
  rw [← hQ.out] at W2
  have P0 : ask * one = P := hP.out.symm
  have Q1 : t * two = Q := hQ.out.symm
  clear p1 p2
  go_wp2_with fail
  refine c1.mono ?_
  rintro e w1 ⟨rfl, k, rfl⟩
  have k1' : Kept (fun _ => True) w (w.drewN k) := (Kept.refl _ _).drewN k
  generalize w.drewN k = w1 at *
  clear c1
  go_wp2_with fail
  refine (new_ok r hr.out).mono ?_
  rintro e w2 ⟨rfl, h2, k2⟩
  have g2 : Hid (GM w w2 w1.heap.size Ga.none) := ⟨h2, k1'.trans k2, k1'.size⟩
  clear h2 k2 k1'
  generalize w1.heap.size = B at *
  have c2 := ask_yes g2.out.now 0 Q len ⟨⟨⟨Q0.1, by omega⟩, ⟨l0, by omega⟩⟩, by omega, Ga.free _ _⟩
  have e2 : Ga.none.on 1 0 (Q + len) = ⟨1, 0, Q + len⟩ := by
    unfold Ga.on Ga.none
    simp only
    split
    · rfl
    · have : Q + len = 0 := by omega
      rw [this]
  rw [e2] at c2
  go_wp2_with fail
  refine c2.mono ?_
  rintro e w3 ⟨rfl, s3⟩
  have g3 : Hid (GM w w3 B ⟨1, 0, Q + len⟩) := g2.out.step s3
  clear c2 s3 g2 e2
  go_wp2_with fail
  refine (within_any a6 400 (by omega) (by omega) _).mono ?_
  rintro e w3 ⟨⟨x4, x40, x41, rfl⟩, rfl⟩
  have n0 : t ≤ t + x4 ∧ t + x4 ≤ 1700 := by omega
  have w0 : IntKind.i64.wrap (t + x4) = t + x4 := wrap_ok (by omega) (by omega)
  obtain ⟨n, hn⟩ : ∃ n, n = t + x4 := ⟨_, rfl⟩
  rw [← hn] at n0 w0
  have p3 := prod_le (n := 1500) (show (0 : Int) ≤ n by omega) (show (0 : Int) ≤ one by omega) n0.2 (by omega)
  have p4 := prod_le (n := 1500) (show (0 : Int) ≤ n by omega) (show (0 : Int) ≤ two by omega) n0.2 (by omega)
  have W3 : IntKind.i64.wrap (n * one) = n * one := wrap_ok (by omega) (by omega)
  have W4 : IntKind.i64.wrap (n * two) = n * two := wrap_ok (by omega) (by omega)
  by_cases hb : H ≤ n * one
  · have hd : decide (H ≤ n * one) = true := decide_eq_true hb
    rw [hn] at hd W3 hb
    go_wp2_with fail
    refine (runs_any _).mono ?_
    rintro e w4 ⟨rfl, k4⟩
    go_wp2
    go_ret
    exact ⟨rfl, g3.out.kept.trans k4⟩
  · have hs := still (len := len) hr.out o0.1 (show (0 : Int) ≤ two by omega) o1.2 t0.1 n0.1 (by rw [← hH.out]; omega)
    rw [Q1] at hs
    have hd : decide (H ≤ n * one) = false := decide_eq_false hb
    obtain ⟨R, hR⟩ : ∃ R, Hid (R = n * two) := ⟨_, rfl⟩
    rw [← hR.out] at hs W4 p4
    have R1 : n * two = R := hR.out.symm
    rw [hn] at hd W3 hb R1
    have c4 := barred_any g3.out.now 1 R
    have c5 := barred_any g3.out.now 0 R
    rw [decide_eq_true (show Ga.bars ⟨1, 0, Q + len⟩ 1 R from ⟨.inl ⟨rfl, (by decide : (1 : Int) ≠ 0)⟩, hs⟩)] at c4
    rw [decide_eq_false (show ¬ Ga.bars ⟨1, 0, Q + len⟩ 0 R from fun h => by
      rcases h.1 with h | h
      · exact h.2 rfl
      · cases h)] at c5
    have c6 := ask_no g3.out.now 1 R 5 (fun h => h.2.2 ⟨.inl ⟨rfl, (by decide : (1 : Int) ≠ 0)⟩, hs⟩)
    go_wp2_with fail
    refine c4.mono ?_
    rintro e w3 ⟨rfl, rfl⟩
    go_wp2_with fail
    refine c5.mono ?_
    rintro e w3 ⟨rfl, rfl⟩
    go_wp2_with fail
    refine c6.mono ?_
    rintro e w3 ⟨rfl, rfl⟩
    go_wp2_with fail
    refine (runs_any _).mono ?_
    rintro e w4 ⟨rfl, k4⟩
    go_wp2
    go_ret
    exact ⟨rfl, g3.out.kept.trans k4⟩

end Go.Proofs.Ytmppejhcjnodhaa
