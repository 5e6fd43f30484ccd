/-
  SpanBack: it answers true for all numbers.
-/
import Derived.Test.YtaacgmogbolakaaLawSpan2
namespace Go.Proofs.Ytaacgmogbolakaa
open Go.RowKit

set_option maxRecDepth 100000 in
set_option maxHeartbeats 4000000 in
theorem spanBack_any (a b c d : Int) (w : World) : Calls Try.prog 7 #[.int .i64 a, .int .i64 b, .int .i64 c, .int .i64 d] w fun e w' => e = .returned (.bool true) ∧ ∃ n, w' = w.drewN n := by
  go_enter Try.func7, Try.ntmps7
  go_wp2_with fail
  refine Calls.mono (within_any a 2000 (by omega) (by omega) _) ?_
  rintro e w1 ⟨⟨k1, l1, u1, rfl⟩, rfl⟩
  go_wp2_with fail
  have a1 : -1000 ≤ k1 - 1000 := by omega
  have a2 : k1 - 1000 ≤ 1000 := by omega
  generalize k1 - 1000 = A at *
  clear l1 u1
  refine Calls.mono (within_any c 2000 (by omega) (by omega) _) ?_
  rintro e w2 ⟨⟨k2, l2, u2, rfl⟩, rfl⟩
  go_wp2_with fail
  have c1 : -1000 ≤ k2 - 1000 := by omega
  have c2 : k2 - 1000 ≤ 1000 := by omega
  generalize k2 - 1000 = C at *
  clear l2 u2
  refine Calls.mono (within_any b 300 (by omega) (by omega) _) ?_
  rintro e w3 ⟨⟨k3, l3, u3, rfl⟩, rfl⟩
  go_wp2_with fail
  have b1 : A ≤ A + k3 := by omega
  have b2 : A + k3 ≤ A + 300 := by omega
  generalize A + k3 = B at *
  clear l3 u3
  refine Calls.mono (of_any A B _) ?_
  rintro e w4 ⟨rfl, rfl⟩
  go_wp2_with fail
  refine Calls.mono (within_any d 300 (by omega) (by omega) _) ?_
  rintro e w5 ⟨⟨k4, l4, u4, rfl⟩, rfl⟩
  go_wp2_with fail
  have d1 : C ≤ C + k4 := by omega
  have d2 : C + k4 ≤ C + 300 := by omega
  generalize C + k4 = D at *
  clear l4 u4
  have R1 : Rt A B := ⟨by omega, by omega, by omega⟩
  have R2 : Rt C D := ⟨by omega, by omega, by omega⟩
  have RS : Rt (A + C) (B + D) := ⟨by omega, by omega, by omega⟩
  refine Calls.mono (of_any C D _) ?_
  rintro e w6 ⟨rfl, rfl⟩
  go_wp2_with fail
  refine Calls.mono (add_yes R1 R2 RS _) ?_
  rintro e w7 ⟨rfl, rfl⟩
  go_wp2_with fail
  refine Calls.mono (sub_yes RS R2 ⟨by omega, by omega, by omega⟩ _) ?_
  rintro e w8 ⟨rfl, rfl⟩
  obtain ⟨P, hP, hP', p1, p2, p3⟩ : ∃ P : Int, (if A < C then A else C) = P ∧ (if C < A then C else A) = P ∧ P ≤ A ∧ P ≤ C ∧ (P = A ∨ P = C) := ⟨_, rfl, by split <;> split <;> omega, by split <;> omega, by split <;> omega, by split <;> omega⟩
  obtain ⟨Q, hQ, hQ', q1, q2, q3⟩ : ∃ Q : Int, (if B < D then D else B) = Q ∧ (if D < B then B else D) = Q ∧ B ≤ Q ∧ D ≤ Q ∧ (Q = B ∨ Q = D) := ⟨_, rfl, by split <;> split <;> omega, by split <;> omega, by split <;> omega, by split <;> omega⟩
  have t1 := same_tw P (by omega)
  have t2 := same_tw Q (by omega)
  have HP : Hid ((if A < C then A else C) = P) := hP
  have HQ : Hid ((if B < D then D else B) = Q) := hQ
  have HP' : Hid ((if C < A then C else A) = P) := hP'
  have HQ' : Hid ((if D < B then B else D) = Q) := hQ'
  clear hP hQ hP' hQ' p3 q3
  by_cases hm : C ≤ B ∧ A ≤ D
  · obtain ⟨m1, m2⟩ := hm
    obtain ⟨M, hM, hM', o1, o2, o3⟩ : ∃ M : Int, (if A < C then C else A) = M ∧ (if C < A then A else C) = M ∧ A ≤ M ∧ C ≤ M ∧ (M = A ∨ M = C) := ⟨_, rfl, by split <;> split <;> omega, by split <;> omega, by split <;> omega, by split <;> omega⟩
    obtain ⟨N, hN, hN', o4, o5, o6⟩ : ∃ N : Int, (if B < D then B else D) = N ∧ (if D < B then D else B) = N ∧ N ≤ B ∧ N ≤ D ∧ (N = B ∨ N = D) := ⟨_, rfl, by split <;> split <;> omega, by split <;> omega, by split <;> omega, by split <;> omega⟩
    have R3 : Rt M N := ⟨by omega, by omega, by omega⟩
    have t3 := same_tw M (by omega)
    have t4 := same_tw N (by omega)
    have HM : Hid ((if A < C then C else A) = M) := hM
    have HN : Hid ((if B < D then B else D) = N) := hN
    have HM' : Hid ((if C < A then A else C) = M) := hM'
    have HN' : Hid ((if D < B then D else B) = N) := hN'
    clear hM hN hM' hN' o3 o6
    go_wp2_with fail
    refine Calls.mono (meet_to R1 R2 M N HM.out HN.out R3 _) ?_
    rintro e w9 ⟨rfl, rfl⟩
    go_wp2_with fail
    refine Calls.mono (meet_to R2 R1 M N HM'.out HN'.out R3 _) ?_
    rintro e w10 ⟨rfl, rfl⟩
    go_wp2_with fail
    refine Calls.mono (within_to R1 ⟨by omega, by omega, by omega⟩ ⟨by omega, by omega⟩ _) ?_
    rintro e w11 ⟨rfl, rfl⟩
    go_wp2_with fail
    refine Calls.mono (within_to R1 R1 ⟨by omega, by omega⟩ _) ?_
    rintro e w12 ⟨rfl, rfl⟩
    go_wp2_with fail
    refine Calls.mono (within_to R3 R1 ⟨by omega, by omega⟩ _) ?_
    rintro e w13 ⟨rfl, rfl⟩
    go_wp2_with fail
    refine Calls.mono (within_to R3 R2 ⟨by omega, by omega⟩ _) ?_
    rintro e w14 ⟨rfl, rfl⟩
    go_wp2_with fail
    refine Calls.mono (before_to R1 R2 false (by simp; omega) _) ?_
    rintro e w15 ⟨rfl, rfl⟩
    go_wp2_with fail
    refine Calls.mono (before_to R2 R1 false (by simp; omega) _) ?_
    rintro e w16 ⟨rfl, rfl⟩
    go_wp2_with fail
    refine Calls.mono (hull_to R1 R2 P Q HP.out HQ.out _) ?_
    rintro e w17 ⟨rfl, rfl⟩
    go_wp2_with fail
    refine Calls.mono (hull_to R2 R1 P Q HP'.out HQ'.out _) ?_
    rintro e w18 ⟨rfl, rfl⟩
    go_wp2_with fail
    refine Calls.mono (known_any _) ?_
    rintro e w19 ⟨rfl, n19, rfl⟩
    go_wp2
    go_ret
    exact ⟨rfl, _, rfl⟩
  · have t5 := same_tw 0 (by decide)
    by_cases hb : B < C
    · clear hm
      go_wp2_with fail
      refine Calls.mono (meet_no R1 R2 (fun h => by have := h.mid; split at this <;> split at this <;> omega) _) ?_
      rintro e w9 ⟨rfl, rfl⟩
      go_wp2_with fail
      refine Calls.mono (meet_no R2 R1 (fun h => by have := h.mid; split at this <;> split at this <;> omega) _) ?_
      rintro e w10 ⟨rfl, rfl⟩
      go_wp2_with fail
      refine Calls.mono (within_to R1 ⟨by omega, by omega, by omega⟩ ⟨by omega, by omega⟩ _) ?_
      rintro e w11 ⟨rfl, rfl⟩
      go_wp2_with fail
      refine Calls.mono (within_to R1 R1 ⟨by omega, by omega⟩ _) ?_
      rintro e w12 ⟨rfl, rfl⟩
      go_wp2_with fail
      refine Calls.mono (before_to R1 R2 true (by simp; omega) _) ?_
      rintro e w13 ⟨rfl, rfl⟩
      go_wp2_with fail
      refine Calls.mono (hull_to R1 R2 P Q HP.out HQ.out _) ?_
      rintro e w14 ⟨rfl, rfl⟩
      go_wp2_with fail
      refine Calls.mono (hull_to R2 R1 P Q HP'.out HQ'.out _) ?_
      rintro e w15 ⟨rfl, rfl⟩
      go_wp2_with fail
      refine Calls.mono (known_any _) ?_
      rintro e w16 ⟨rfl, n16, rfl⟩
      go_wp2
      go_ret
      exact ⟨rfl, _, rfl⟩
    · have i0 : D < A := by omega
      clear hm
      go_wp2_with fail
      refine Calls.mono (meet_no R1 R2 (fun h => by have := h.mid; split at this <;> split at this <;> omega) _) ?_
      rintro e w9 ⟨rfl, rfl⟩
      go_wp2_with fail
      refine Calls.mono (meet_no R2 R1 (fun h => by have := h.mid; split at this <;> split at this <;> omega) _) ?_
      rintro e w10 ⟨rfl, rfl⟩
      go_wp2_with fail
      refine Calls.mono (within_to R1 ⟨by omega, by omega, by omega⟩ ⟨by omega, by omega⟩ _) ?_
      rintro e w11 ⟨rfl, rfl⟩
      go_wp2_with fail
      refine Calls.mono (within_to R1 R1 ⟨by omega, by omega⟩ _) ?_
      rintro e w12 ⟨rfl, rfl⟩
      go_wp2_with fail
      refine Calls.mono (before_to R1 R2 false (by simp; omega) _) ?_
      rintro e w13 ⟨rfl, rfl⟩
      go_wp2_with fail
      refine Calls.mono (before_to R2 R1 true (by simp; omega) _) ?_
      rintro e w14 ⟨rfl, rfl⟩
      go_wp2_with fail
      refine Calls.mono (hull_to R1 R2 P Q HP.out HQ.out _) ?_
      rintro e w15 ⟨rfl, rfl⟩
      go_wp2_with fail
      refine Calls.mono (hull_to R2 R1 P Q HP'.out HQ'.out _) ?_
      rintro e w16 ⟨rfl, rfl⟩
      go_wp2_with fail
      refine Calls.mono (known_any _) ?_
      rintro e w17 ⟨rfl, n17, rfl⟩
      go_wp2
      go_ret
      exact ⟨rfl, _, rfl⟩

end Go.Proofs.Ytaacgmogbolakaa
