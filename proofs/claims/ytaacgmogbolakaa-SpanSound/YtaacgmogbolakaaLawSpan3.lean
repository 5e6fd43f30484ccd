/-
  SpanSound: it answers true for all numbers.
-/
import Derived.Test.YtaacgmogbolakaaFSpan4
import Derived.BigGuard
namespace Go.Proofs.Ytaacgmogbolakaa
open Go.RowKit

set_option maxRecDepth 100000 in
set_option maxHeartbeats 8000000 in
theorem spanSound_any (a b c d x y : Int) (w : World) : Calls Try.prog 5 #[.int .i64 a, .int .i64 b, .int .i64 c, .int .i64 d, .int .i64 x, .int .i64 y] w fun e w' => e = .returned (.bool true) ∧ ∃ n, w' = w.drewN n := by
  go_enter Try.func5, Try.ntmps5
  dsimp only [List.append]
  go_wp2_with fail
  refine Calls.mono (within_any a 2000 (by omega) (by omega) _) ?_
  rintro e w1 ⟨⟨k1, l1, u1, rfl⟩, rfl⟩
  go_wp2_with fail
  have a1 : -1000 ≤ k1 - 1000 := by omega
  have a2 : k1 - 1000 ≤ 1000 := by omega
  generalize k1 - 1000 = A at *
  clear l1 u1
  refine Calls.mono (within_any c 2000 (by omega) (by omega) _) ?_
  rintro e w2 ⟨⟨k2, l2, u2, rfl⟩, rfl⟩
  go_wp2_with fail
  have c1 : -1000 ≤ k2 - 1000 := by omega
  have c2 : k2 - 1000 ≤ 1000 := by omega
  generalize k2 - 1000 = C at *
  clear l2 u2
  refine Calls.mono (within_any b 500 (by omega) (by omega) _) ?_
  rintro e w3 ⟨⟨k3, l3, u3, rfl⟩, rfl⟩
  go_wp2_with fail
  have b1 : A ≤ A + k3 := by omega
  have b2 : A + k3 ≤ A + 500 := by omega
  generalize A + k3 = B at *
  clear l3 u3
  refine Calls.mono (within_any d 500 (by omega) (by omega) _) ?_
  rintro e w4 ⟨⟨k4, l4, u4, rfl⟩, rfl⟩
  go_wp2_with fail
  have d1 : C ≤ C + k4 := by omega
  have d2 : C + k4 ≤ C + 500 := by omega
  generalize C + k4 = D at *
  clear l4 u4
  refine Calls.mono (within_any x _ (by omega) (by omega) _) ?_
  rintro e w5 ⟨⟨k5, l5, u5, rfl⟩, rfl⟩
  go_wp2_with fail
  have x1 : A ≤ A + k5 := by omega
  have x2 : A + k5 ≤ B := by omega
  generalize A + k5 = X at *
  clear l5 u5
  refine Calls.mono (within_any y _ (by omega) (by omega) _) ?_
  rintro e w6 ⟨⟨k6, l6, u6, rfl⟩, rfl⟩
  go_wp2_with fail
  have y1 : C ≤ C + k6 := by omega
  have y2 : C + k6 ≤ D := by omega
  generalize C + k6 = Y at *
  clear l6 u6
  have R1 : Rt A B := ⟨by omega, by omega, by omega⟩
  have R2 : Rt C D := ⟨by omega, by omega, by omega⟩
  have G1 : Rt (A + C) (B + D) := ⟨by omega, by omega, by omega⟩
  have G2 : Rt (A - D) (B - C) := ⟨by omega, by omega, by omega⟩
  have G3 : Rt (X + Y) (X + Y) := ⟨by omega, by omega, by omega⟩
  have G4 : Rt (X - Y) (X - Y) := ⟨by omega, by omega, by omega⟩
  have G5 : Rt X X := ⟨by omega, by omega, by omega⟩
  have V1 : Hid (A + C ≤ X + Y ∧ X + Y ≤ B + D) := ⟨by omega, by omega⟩
  have V2 : Hid (A - D ≤ X - Y ∧ X - Y ≤ B - C) := ⟨by omega, by omega⟩
  have z1 : -1000 ≤ X := by omega
  have z2 : X ≤ 1500 := by omega
  have z3 : -1000 ≤ Y := by omega
  have z4 : Y ≤ 1500 := by omega
  have FA : Hid ((-1000 ≤ A ∧ A ≤ 1000) ∧ (-1000 ≤ C ∧ C ≤ 1000) ∧ (A ≤ B ∧ B ≤ A + 500) ∧ (C ≤ D ∧ D ≤ C + 500) ∧ (A ≤ X ∧ X ≤ B) ∧ (C ≤ Y ∧ Y ≤ D)) := ⟨⟨a1, a2⟩, ⟨c1, c2⟩, ⟨b1, b2⟩, ⟨d1, d2⟩, ⟨x1, x2⟩, ⟨y1, y2⟩⟩
  clear a1 a2 b1 b2 c1 c2 d1 d2 x1 x2 y1 y2
  refine Calls.mono (of_any A B _) ?_
  rintro e w7 ⟨rfl, rfl⟩
  go_wp2_with fail
  refine Calls.mono (of_any C D _) ?_
  rintro e w8 ⟨rfl, rfl⟩
  go_wp2_with fail
  refine Calls.mono (add_yes R1 R2 G1 _) ?_
  rintro e w9 ⟨rfl, rfl⟩
  go_wp2_with fail
  refine Calls.mono (of_any A B _) ?_
  rintro e w10 ⟨rfl, rfl⟩
  go_wp2_with fail
  refine Calls.mono (of_any C D _) ?_
  rintro e w11 ⟨rfl, rfl⟩
  go_wp2_with fail
  refine Calls.mono (sub_yes R1 R2 G2 _) ?_
  rintro e w12 ⟨rfl, rfl⟩
  go_wp2_with fail
  refine Calls.mono (of_any A B _) ?_
  rintro e w13 ⟨rfl, rfl⟩
  go_wp2_with fail
  refine Calls.mono (of_any C D _) ?_
  rintro e w14 ⟨rfl, rfl⟩
  obtain ⟨P, hP, p1, p2, p3⟩ : ∃ P : Int, (if A < C then A else C) = P ∧ P ≤ A ∧ P ≤ C ∧ (P = A ∨ P = C) := ⟨_, rfl, by split <;> omega, by split <;> omega, by split <;> omega⟩
  obtain ⟨Q, hQ, q1, q2, q3⟩ : ∃ Q : Int, (if B < D then D else B) = Q ∧ B ≤ Q ∧ D ≤ Q ∧ (Q = B ∨ Q = D) := ⟨_, rfl, by split <;> omega, by split <;> omega, by split <;> omega⟩
  have R4 : Rt P Q := by obtain ⟨⟨_, _⟩, ⟨_, _⟩, ⟨_, _⟩, ⟨_, _⟩, _, _⟩ := FA.out; exact ⟨by omega, by omega, by omega⟩
  have V3 : Hid (P ≤ A ∧ B ≤ Q) := ⟨p1, q1⟩
  have HP : Hid ((if A < C then A else C) = P) := hP
  have HQ : Hid ((if B < D then D else B) = Q) := hQ
  clear hP hQ p1 p2 q1 q2 p3 q3
  by_cases hm : C ≤ B ∧ A ≤ D
  · obtain ⟨m1, m2⟩ := hm
    obtain ⟨M, hM, o1, o2, o3⟩ : ∃ M : Int, (if A < C then C else A) = M ∧ A ≤ M ∧ C ≤ M ∧ (M = A ∨ M = C) := ⟨_, rfl, by split <;> omega, by split <;> omega, by split <;> omega⟩
    obtain ⟨N, hN, o4, o5, o6⟩ : ∃ N : Int, (if B < D then B else D) = N ∧ N ≤ B ∧ N ≤ D ∧ (N = B ∨ N = D) := ⟨_, rfl, by split <;> omega, by split <;> omega, by split <;> omega⟩
    have R3 : Rt M N := by obtain ⟨⟨_, _⟩, ⟨_, _⟩, ⟨_, _⟩, ⟨_, _⟩, _, _⟩ := FA.out; exact ⟨by omega, by omega, by omega⟩
    have V5 : Hid (decide (B < C) = false) := decide_eq_false (by omega)
    have V6 : Hid (decide (D < A) = false) := decide_eq_false (by omega)
    have HM : Hid ((if A < C then C else A) = M) := hM
    have HN : Hid ((if B < D then B else D) = N) := hN
    have f1 : C ≤ X → X ≤ D → M ≤ X ∧ X ≤ N := by obtain ⟨⟨_, _⟩, ⟨_, _⟩, ⟨_, _⟩, ⟨_, _⟩, ⟨_, _⟩, _⟩ := FA.out; intro h1 h2; omega
    clear hM hN o1 o2 o3 o4 o5 o6 m1 m2
    by_cases i1 : C ≤ X
    · by_cases i2 : X ≤ D
      · have V4 : Hid (M ≤ X ∧ X ≤ N) := f1 i1 i2
        clear f1
        go_wp2_with fail
        refine Calls.mono (meet_to R1 R2 M N HM.out HN.out R3 _) ?_
        rintro e w15 ⟨rfl, rfl⟩
        go_wp2_with fail
        refine Calls.mono (of_any (X + Y) (X + Y) _) ?_
        rintro e w16 ⟨rfl, rfl⟩
        go_wp2_with fail
        refine Calls.mono (within_to G3 G1 V1.out _) ?_
        rintro e w17 ⟨rfl, rfl⟩
        go_wp2_with fail
        refine Calls.mono (of_any (X - Y) (X - Y) _) ?_
        rintro e w18 ⟨rfl, rfl⟩
        go_wp2_with fail
        refine Calls.mono (within_to G4 G2 V2.out _) ?_
        rintro e w19 ⟨rfl, rfl⟩
        go_wp2_with fail
        refine Calls.mono (of_any X X _) ?_
        rintro e w20 ⟨rfl, rfl⟩
        go_wp2_with fail
        refine Calls.mono (within_to G5 R3 V4.out _) ?_
        rintro e w21 ⟨rfl, rfl⟩
        go_wp2_with fail
        refine Calls.mono (of_any A B _) ?_
        rintro e w22 ⟨rfl, rfl⟩
        go_wp2_with fail
        refine Calls.mono (of_any C D _) ?_
        rintro e w23 ⟨rfl, rfl⟩
        go_wp2_with fail
        refine Calls.mono (before_to R1 R2 false V5.out _) ?_
        rintro e w24 ⟨rfl, rfl⟩
        go_wp2_with fail
        refine Calls.mono (of_any C D _) ?_
        rintro e w25 ⟨rfl, rfl⟩
        go_wp2_with fail
        refine Calls.mono (of_any A B _) ?_
        rintro e w26 ⟨rfl, rfl⟩
        go_wp2_with fail
        refine Calls.mono (before_to R2 R1 false V6.out _) ?_
        rintro e w27 ⟨rfl, rfl⟩
        go_wp2_with fail
        refine Calls.mono (of_any A B _) ?_
        rintro e w28 ⟨rfl, rfl⟩
        go_wp2_with fail
        refine Calls.mono (of_any A B _) ?_
        rintro e w29 ⟨rfl, rfl⟩
        go_wp2_with fail
        refine Calls.mono (of_any C D _) ?_
        rintro e w30 ⟨rfl, rfl⟩
        go_wp2_with fail
        refine Calls.mono (hull_to R1 R2 P Q HP.out HQ.out _) ?_
        rintro e w31 ⟨rfl, rfl⟩
        go_wp2_with fail
        refine Calls.mono (within_to R1 R4 V3.out _) ?_
        rintro e w32 ⟨rfl, rfl⟩
        go_wp2_with fail
        refine Calls.mono (known_any _) ?_
        rintro e w33 ⟨rfl, n33, rfl⟩
        go_wp2
        go_ret
        exact ⟨rfl, _, rfl⟩
      · clear f1
        have hd : decide (X ≤ D) = false := decide_eq_false i2
        have i3 : D < X := by omega
        go_wp2_with fail
        refine Calls.mono (meet_to R1 R2 M N HM.out HN.out R3 _) ?_
        rintro e w15 ⟨rfl, rfl⟩
        go_wp2_with fail
        refine Calls.mono (of_any (X + Y) (X + Y) _) ?_
        rintro e w16 ⟨rfl, rfl⟩
        go_wp2_with fail
        refine Calls.mono (within_to G3 G1 V1.out _) ?_
        rintro e w17 ⟨rfl, rfl⟩
        go_wp2_with fail
        refine Calls.mono (of_any (X - Y) (X - Y) _) ?_
        rintro e w18 ⟨rfl, rfl⟩
        go_wp2_with fail
        refine Calls.mono (within_to G4 G2 V2.out _) ?_
        rintro e w19 ⟨rfl, rfl⟩
        go_wp2_with fail
        refine Calls.mono (of_any A B _) ?_
        rintro e w20 ⟨rfl, rfl⟩
        go_wp2_with fail
        refine Calls.mono (of_any C D _) ?_
        rintro e w21 ⟨rfl, rfl⟩
        go_wp2_with fail
        refine Calls.mono (before_to R1 R2 false V5.out _) ?_
        rintro e w22 ⟨rfl, rfl⟩
        go_wp2_with fail
        refine Calls.mono (of_any C D _) ?_
        rintro e w23 ⟨rfl, rfl⟩
        go_wp2_with fail
        refine Calls.mono (of_any A B _) ?_
        rintro e w24 ⟨rfl, rfl⟩
        go_wp2_with fail
        refine Calls.mono (before_to R2 R1 false V6.out _) ?_
        rintro e w25 ⟨rfl, rfl⟩
        go_wp2_with fail
        refine Calls.mono (of_any A B _) ?_
        rintro e w26 ⟨rfl, rfl⟩
        go_wp2_with fail
        refine Calls.mono (of_any A B _) ?_
        rintro e w27 ⟨rfl, rfl⟩
        go_wp2_with fail
        refine Calls.mono (of_any C D _) ?_
        rintro e w28 ⟨rfl, rfl⟩
        go_wp2_with fail
        refine Calls.mono (hull_to R1 R2 P Q HP.out HQ.out _) ?_
        rintro e w29 ⟨rfl, rfl⟩
        go_wp2_with fail
        refine Calls.mono (within_to R1 R4 V3.out _) ?_
        rintro e w30 ⟨rfl, rfl⟩
        go_wp2_with fail
        refine Calls.mono (known_any _) ?_
        rintro e w31 ⟨rfl, n31, rfl⟩
        go_wp2
        go_ret
        exact ⟨rfl, _, rfl⟩
    · clear f1
      have hd : decide (C ≤ X) = false := decide_eq_false i1
      have i3 : X < C := by omega
      go_wp2_with fail
      refine Calls.mono (meet_to R1 R2 M N HM.out HN.out R3 _) ?_
      rintro e w15 ⟨rfl, rfl⟩
      go_wp2_with fail
      refine Calls.mono (of_any (X + Y) (X + Y) _) ?_
      rintro e w16 ⟨rfl, rfl⟩
      go_wp2_with fail
      refine Calls.mono (within_to G3 G1 V1.out _) ?_
      rintro e w17 ⟨rfl, rfl⟩
      go_wp2_with fail
      refine Calls.mono (of_any (X - Y) (X - Y) _) ?_
      rintro e w18 ⟨rfl, rfl⟩
      go_wp2_with fail
      refine Calls.mono (within_to G4 G2 V2.out _) ?_
      rintro e w19 ⟨rfl, rfl⟩
      go_wp2_with fail
      refine Calls.mono (of_any A B _) ?_
      rintro e w20 ⟨rfl, rfl⟩
      go_wp2_with fail
      refine Calls.mono (of_any C D _) ?_
      rintro e w21 ⟨rfl, rfl⟩
      go_wp2_with fail
      refine Calls.mono (before_to R1 R2 false V5.out _) ?_
      rintro e w22 ⟨rfl, rfl⟩
      go_wp2_with fail
      refine Calls.mono (of_any C D _) ?_
      rintro e w23 ⟨rfl, rfl⟩
      go_wp2_with fail
      refine Calls.mono (of_any A B _) ?_
      rintro e w24 ⟨rfl, rfl⟩
      go_wp2_with fail
      refine Calls.mono (before_to R2 R1 false V6.out _) ?_
      rintro e w25 ⟨rfl, rfl⟩
      go_wp2_with fail
      refine Calls.mono (of_any A B _) ?_
      rintro e w26 ⟨rfl, rfl⟩
      go_wp2_with fail
      refine Calls.mono (of_any A B _) ?_
      rintro e w27 ⟨rfl, rfl⟩
      go_wp2_with fail
      refine Calls.mono (of_any C D _) ?_
      rintro e w28 ⟨rfl, rfl⟩
      go_wp2_with fail
      refine Calls.mono (hull_to R1 R2 P Q HP.out HQ.out _) ?_
      rintro e w29 ⟨rfl, rfl⟩
      go_wp2_with fail
      refine Calls.mono (within_to R1 R4 V3.out _) ?_
      rintro e w30 ⟨rfl, rfl⟩
      go_wp2_with fail
      refine Calls.mono (known_any _) ?_
      rintro e w31 ⟨rfl, n31, rfl⟩
      go_wp2
      go_ret
      exact ⟨rfl, _, rfl⟩
  · have V7 : Hid (¬ Rt (if A < C then C else A) (if B < D then B else D)) := by
      obtain ⟨⟨_, _⟩, ⟨_, _⟩, ⟨_, _⟩, ⟨_, _⟩, _, _⟩ := FA.out
      exact fun h => by have := h.mid; split at this <;> split at this <;> omega
    by_cases hb : B < C
    · have i3 : X < C := by obtain ⟨⟨_, _⟩, ⟨_, _⟩, ⟨_, _⟩, ⟨_, _⟩, ⟨_, _⟩, _⟩ := FA.out; omega
      have i1 : ¬ C ≤ X := by omega
      have hd : decide (C ≤ X) = false := decide_eq_false i1
      have V5 : Hid (decide (B < C) = true) := decide_eq_true hb
      clear hm hb
      go_wp2_with fail
      refine Calls.mono (meet_no R1 R2 V7.out _) ?_
      rintro e w15 ⟨rfl, rfl⟩
      go_wp2_with fail
      refine Calls.mono (of_any (X + Y) (X + Y) _) ?_
      rintro e w16 ⟨rfl, rfl⟩
      go_wp2_with fail
      refine Calls.mono (within_to G3 G1 V1.out _) ?_
      rintro e w17 ⟨rfl, rfl⟩
      go_wp2_with fail
      refine Calls.mono (of_any (X - Y) (X - Y) _) ?_
      rintro e w18 ⟨rfl, rfl⟩
      go_wp2_with fail
      refine Calls.mono (within_to G4 G2 V2.out _) ?_
      rintro e w19 ⟨rfl, rfl⟩
      go_wp2_with fail
      refine Calls.mono (of_any A B _) ?_
      rintro e w20 ⟨rfl, rfl⟩
      go_wp2_with fail
      refine Calls.mono (of_any C D _) ?_
      rintro e w21 ⟨rfl, rfl⟩
      go_wp2_with fail
      refine Calls.mono (before_to R1 R2 true V5.out _) ?_
      rintro e w22 ⟨rfl, rfl⟩
      go_wp2_with fail
      refine Calls.mono (of_any A B _) ?_
      rintro e w23 ⟨rfl, rfl⟩
      go_wp2_with fail
      refine Calls.mono (of_any A B _) ?_
      rintro e w24 ⟨rfl, rfl⟩
      go_wp2_with fail
      refine Calls.mono (of_any C D _) ?_
      rintro e w25 ⟨rfl, rfl⟩
      go_wp2_with fail
      refine Calls.mono (hull_to R1 R2 P Q HP.out HQ.out _) ?_
      rintro e w26 ⟨rfl, rfl⟩
      go_wp2_with fail
      refine Calls.mono (within_to R1 R4 V3.out _) ?_
      rintro e w27 ⟨rfl, rfl⟩
      go_wp2_with fail
      refine Calls.mono (known_any _) ?_
      rintro e w28 ⟨rfl, n28, rfl⟩
      go_wp2
      go_ret
      exact ⟨rfl, _, rfl⟩
    · have i0 : D < A := by omega
      have i3 : D < X := by obtain ⟨⟨_, _⟩, ⟨_, _⟩, ⟨_, _⟩, ⟨_, _⟩, ⟨_, _⟩, _⟩ := FA.out; omega
      have i1 : C ≤ X := by obtain ⟨⟨_, _⟩, ⟨_, _⟩, ⟨_, _⟩, ⟨_, _⟩, ⟨_, _⟩, _⟩ := FA.out; omega
      have i2 : ¬ X ≤ D := by omega
      have hd : decide (X ≤ D) = false := decide_eq_false i2
      have V5 : Hid (decide (B < C) = false) := decide_eq_false hb
      have V6 : Hid (decide (D < A) = true) := decide_eq_true i0
      clear hm hb i0
      go_wp2_with fail
      refine Calls.mono (meet_no R1 R2 V7.out _) ?_
      rintro e w15 ⟨rfl, rfl⟩
      go_wp2_with fail
      refine Calls.mono (of_any (X + Y) (X + Y) _) ?_
      rintro e w16 ⟨rfl, rfl⟩
      go_wp2_with fail
      refine Calls.mono (within_to G3 G1 V1.out _) ?_
      rintro e w17 ⟨rfl, rfl⟩
      go_wp2_with fail
      refine Calls.mono (of_any (X - Y) (X - Y) _) ?_
      rintro e w18 ⟨rfl, rfl⟩
      go_wp2_with fail
      refine Calls.mono (within_to G4 G2 V2.out _) ?_
      rintro e w19 ⟨rfl, rfl⟩
      go_wp2_with fail
      refine Calls.mono (of_any A B _) ?_
      rintro e w20 ⟨rfl, rfl⟩
      go_wp2_with fail
      refine Calls.mono (of_any C D _) ?_
      rintro e w21 ⟨rfl, rfl⟩
      go_wp2_with fail
      refine Calls.mono (before_to R1 R2 false V5.out _) ?_
      rintro e w22 ⟨rfl, rfl⟩
      go_wp2_with fail
      refine Calls.mono (of_any C D _) ?_
      rintro e w23 ⟨rfl, rfl⟩
      go_wp2_with fail
      refine Calls.mono (of_any A B _) ?_
      rintro e w24 ⟨rfl, rfl⟩
      go_wp2_with fail
      refine Calls.mono (before_to R2 R1 true V6.out _) ?_
      rintro e w25 ⟨rfl, rfl⟩
      go_wp2_with fail
      refine Calls.mono (of_any A B _) ?_
      rintro e w26 ⟨rfl, rfl⟩
      go_wp2_with fail
      refine Calls.mono (of_any A B _) ?_
      rintro e w27 ⟨rfl, rfl⟩
      go_wp2_with fail
      refine Calls.mono (of_any C D _) ?_
      rintro e w28 ⟨rfl, rfl⟩
      go_wp2_with fail
      refine Calls.mono (hull_to R1 R2 P Q HP.out HQ.out _) ?_
      rintro e w29 ⟨rfl, rfl⟩
      go_wp2_with fail
      refine Calls.mono (within_to R1 R4 V3.out _) ?_
      rintro e w30 ⟨rfl, rfl⟩
      go_wp2_with fail
      refine Calls.mono (known_any _) ?_
      rintro e w31 ⟨rfl, n31, rfl⟩
      go_wp2
      go_ret
      exact ⟨rfl, _, rfl⟩

end Go.Proofs.Ytaacgmogbolakaa
