/-
  LogForgets.
-/
import Derived.Test.YtmejeiadfcdogaaLTx
import Derived.Test.YtmejeiadfcdogaaLAsks
import Derived.Test.YtmejeiadfcdogaaSWithin
namespace Go.Proofs.Ytmejeiadfcdogaa
open Go.RowKit

theorem wrap32 (s : Nat) (h : s ≤ 1000) : IntKind.i32.wrap (65 + (s : Int)) = 65 + (s : Int) := by
  simp [IntKind.wrap, IntKind.bits, IntKind.signed]
  omega

variable {tx : Nat → List UInt8}
/-- A log whose first slots, up to below C, are forgotten. -/
def cutOff (tx : Nat → List UInt8) (N C : Nat) : Vals := gone (upTo tx N) C
theorem cutOff_in {N C s : Nat} (h1 : C ≤ s) (h2 : s < N) : cutOff tx N C (s : Int) = some (tx s) := by
  unfold cutOff gone
  rw [if_neg (by omega), upTo_in h2]
theorem cutOff_low {N C s : Nat} (h : s < C) : cutOff tx N C (s : Int) = none := by
  unfold cutOff gone
  rw [if_pos (by omega)]
theorem cutOff_high {N C : Nat} {z : Int} (h : (N : Int) ≤ z) : cutOff tx N C z = none := by
  unfold cutOff gone
  split
  · rfl
  · exact upTo_out h
/-- One slot more. -/
def andNext (tx : Nat → List UInt8) (N C : Nat) : Vals := put (cutOff tx N C) (N : Int) [110, 101, 120, 116]
theorem andNext_next {N C m : Nat} (h : IsNext (andNext tx N C) N m) : m = N + 1 := next_at h (by omega) (fun z a b => by
  have e : z = (N : Int) := by omega
  subst e
  unfold andNext put
  rw [if_pos rfl]
  simp) (by
  unfold andNext put
  rw [if_neg (by omega)]
  exact cutOff_high (by omega))
theorem andNext_next' {N C m : Nat} (h : IsNext (andNext tx N C) (N + 1) m) : m = N + 1 := next_at h (Nat.le_refl _) (fun z a b => by omega) (by
  unfold andNext put
  rw [if_neg (by omega)]
  exact cutOff_high (by omega))
theorem andNext_vals {N C : Nat} : vals (andNext tx N C) N (N + 1) = [[110, 101, 120, 116]] := by
  rw [vals_step _ (Nat.le_refl _), vals_none]
  simp [andNext, put]

set_option maxRecDepth 100000 in
set_option maxHeartbeats 4000000 in
theorem logForgets_any {w : World} (z1 z2 : Int) {a : Option Addr} {na ca : Nat} (ha : IsInts w a na) :
    Calls Try.prog 6 #[.int .i64 z1, .int .i64 z2, .slice a na ca] w fun e w' => e = .returned (.bool true) ∧ Kept (fun _ => True) w w' := by
  obtain ⟨tx, htx⟩ := tx_some
  have HS : Hid (IsInts w a na) := ha
  clear ha
  go_enter Try.func6, Try.ntmps6
  go_wp2_with fail
  refine Calls.mono new_any ?_
  rintro e w1 ⟨L, M, rfl, h1, k1, a1, m1⟩
  have H1 : Hid (LM w w1 L M 0 ⟨0, 0, upTo tx 0⟩) := by rw [upTo_zero]; exact ⟨h1, k1, a1, m1⟩
  clear h1 k1 a1 m1
  go_wp2_with fail
  refine Calls.mono (within_any _ 30 (by decide)) ?_
  rintro e _ ⟨⟨N, hN, rfl⟩, rfl⟩
  go_wp2_with fail
  go_loopw [8] (fun t wr => ∃ i : Nat, i ≤ N ∧ t = .int .i64 (i : Nat) ∧ LM w wr L M i ⟨0, 0, upTo tx i⟩) (fun t _ => N - (intOf t).toNat)
  case atStart => exact ⟨0, Nat.zero_le _, rfl, H1.out⟩
  case round =>
    obtain ⟨i, hi, rfl, hm⟩ := hrel
    have HM : Hid (LM w wr L M i ⟨0, 0, upTo tx i⟩) := hm
    clear hm H1
    by_cases hlt : i < N
    · have g1 : (i : Int) < (N : Int) := by omega
      have hc := conv_tx htx i
      have hw := wrap32 i (by omega)
      have hl : learn ⟨0, 0, upTo tx i⟩ (i : Int) (tx i) = (0, ⟨0, 0, upTo tx (i + 1)⟩) := by
        rw [learn_new (by omega) (by omega) (by show ((0 : Nat) : Int) ≤ _; omega) (upTo_out (Int.le_refl _))]
        rw [← upTo_put]
      have c := learn_to HM.out.lm (by omega) (s := (i : Int)) ⟨by omega, by omega⟩ hl
      clear hl
      generalize tx i = v at *
      go_wp2_with fail
      refine Calls.mono c ?_
      rintro e w2 ⟨rfl, h2, k2⟩
      have H2 : Hid (LM w w2 L M (i + 1) ⟨0, 0, upTo tx (i + 1)⟩) := HM.out.step h2 k2
      clear h2 k2 c HM
      go_wp2_with fail
      go_roundw
      case rel => exact ⟨i + 1, by omega, by go_num, H2.out⟩
      case measure => simp [intOf]; omega
    · have e : i = N := by omega
      subst e
      clear hlt hi
      have HN : Hid (i ≤ 30) := hN
      go_wp2_with fail
      refine Calls.mono (within_any _ i (by omega)) ?_
      rintro e _ ⟨⟨C, hC, rfl⟩, rfl⟩
      go_wp2_with fail
      refine Calls.mono (take_any HM.out.lm) ?_
      rintro e w2 ⟨m2, v2, rfl, n2, t2, h2, k2⟩
      have e2 := upTo_next n2
      subst e2
      obtain ⟨ao2, c2, rfl, -, -⟩ := t2.shape
      have l2 : (vals (upTo tx m2) 0 m2).length = m2 := by rw [vals_length]; omega
      have H2 : Hid (LM w w2 L M m2 ⟨0, m2, upTo tx m2⟩) := HM.out.step h2 k2
      rw [l2]
      clear n2 t2 h2 k2 l2 HM
      have c3 := compact_to H2.out.lm (z := (C : Int)) (r := 0) (y := ⟨C, m2, cutOff tx m2 C⟩) (by unfold compact; rw [if_neg (by show ¬ ((C : Int) < ((0 : Nat) : Int) ∨ (m2 : Int) < (C : Int)); omega)]; rfl)
      go_wp2_with fail
      refine Calls.mono c3 ?_
      rintro e w3 ⟨rfl, h3, k3⟩
      have H3 : Hid (LM w w3 L M m2 ⟨C, m2, cutOff tx m2 C⟩) := H2.out.step h3 k3
      clear h3 k3 c3 H2
      go_wp2_with (first
        | (go_at_call 18; refine Calls.mono (base_any H3.out.lm.lc) ?_; rintro e _ ⟨rfl, rfl⟩)
        | (go_at_call 19; refine Calls.mono (taken_any H3.out.lm.lc) ?_; rintro e _ ⟨rfl, rfl⟩))
      go_loopw [10] (fun t wr => ∃ i : Nat, i ≤ m2 ∧ t = .int .i64 (i : Nat) ∧ LM w wr L M m2 ⟨C, m2, cutOff tx m2 C⟩) (fun t _ => m2 - (intOf t).toNat)
      case atStart => exact ⟨0, Nat.zero_le _, rfl, H3.out⟩
      case round =>
        obtain ⟨i, hi, rfl, hm⟩ := hrel
        have HM : Hid (LM w wr L M m2 ⟨C, m2, cutOff tx m2 C⟩) := hm
        clear hm H3
        have hN30 := HN.out
        by_cases hlt : i < m2
        · have g1 : (i : Int) < (m2 : Int) := by omega
          have hc := conv_tx htx i
          have hw := wrap32 i (by omega)
          have c := get_any HM.out.lm.lc (z := (i : Int)) ⟨by omega, by omega⟩
          by_cases hCi : C ≤ i
          · have e : cutOff tx m2 C (i : Int) = some (tx i) := cutOff_in hCi hlt
            simp only [e, Option.getD_some, Option.isSome_some] at c
            have g2 : (C : Int) ≤ (i : Int) := by omega
            clear e
            generalize tx i = v at *
            go_wp2_with fail
            refine Calls.mono c ?_
            rintro e w4 ⟨rfl, k4⟩
            have H4 : Hid (LM w w4 L M m2 ⟨C, m2, cutOff tx m2 C⟩) := HM.out.ahead k4
            clear k4 c HM
            go_wp2_with fail
            go_roundw
            case rel => exact ⟨i + 1, by omega, by go_num, H4.out⟩
            case measure => simp [intOf]; omega
          · have e : cutOff tx m2 C (i : Int) = none := cutOff_low (by omega)
            simp only [e, Option.getD_none, Option.isSome_none] at c
            have g2 : ¬ (C : Int) ≤ (i : Int) := by omega
            clear e hc
            go_wp2_with fail
            refine Calls.mono c ?_
            rintro e w4 ⟨rfl, k4⟩
            have H4 : Hid (LM w w4 L M m2 ⟨C, m2, cutOff tx m2 C⟩) := HM.out.ahead k4
            clear k4 c HM
            go_wp2_with fail
            go_roundw
            case rel => exact ⟨i + 1, by omega, by go_num, H4.out⟩
            case measure => simp [intOf]; omega
        · have e : i = m2 := by omega
          subst e
          clear hlt hi
          go_wp2_with fail
          have H5 : Hid (LM w wr L M i ⟨C, i, cutOff tx i C⟩) := HM.out
          clear HM
          go_loopw [13] (fun t wr => ∃ j q : Nat, j ≤ 20 ∧ q ≤ i + j ∧ t = .int .i64 (j : Nat) ∧ LM w wr L M q ⟨C, i, cutOff tx i C⟩) (fun t _ => 20 - (intOf t).toNat)
          case atStart => exact ⟨0, i, by omega, by omega, rfl, H5.out⟩
          case round =>
            obtain ⟨j, q, hj, hq, rfl, hm⟩ := hrel
            have HM : Hid (LM w wr L M q ⟨C, i, cutOff tx i C⟩) := hm
            clear hm H5
            by_cases hlt : j < na ∧ j < 20
            · obtain ⟨b, off, y, rfl, hy⟩ := int_at HS.out hlt.1
              have y1 := hy wr HM.out.kept
              have g1 : (j : Int) < (na : Int) := by omega
              have g2 : (j : Int) < 20 := by omega
              have g0 : (0 : Int) ≤ (j : Int) := by omega
              clear hlt hy
              by_cases hC0 : 0 < C
              · have g3 : (0 : Int) < (C : Int) := by omega
                obtain ⟨D, hD⟩ : ∃ D, C = D + 1 := ⟨C - 1, by omega⟩
                have eD : (C : Int) - 1 = (D : Int) := by omega
                have HD : Hid (C = D + 1) := hD
                clear hD
                go_wp2_with fail
                refine Calls.mono (within_any _ D (by have := HD.out; omega)) ?_
                rintro e _ ⟨⟨s, hs, rfl⟩, rfl⟩
                have c := learn_to HM.out.lm (by omega) (s := (s : Int)) ⟨by omega, by have := HD.out; omega⟩ (v := [97, 110, 121]) (r := 0) (learn_low (by omega) (by have := HD.out; omega) (by show (s : Int) < (C : Int); have := HD.out; omega))
                go_wp2_with fail
                refine Calls.mono c ?_
                rintro e w4 ⟨rfl, h4, k4⟩
                have H4 : Hid (LM w w4 L M (q + 1) ⟨C, i, cutOff tx i C⟩) := HM.out.step h4 k4
                clear h4 k4 c HM
                go_wp2_with fail
                go_roundw
                case rel => exact ⟨j + 1, q + 1, by omega, by omega, by go_num, H4.out⟩
                case measure => simp [intOf]; omega
              · have e : C = 0 := by omega
                subst e
                go_wp2_with fail
                go_roundw
                case rel => exact ⟨j + 1, q, by omega, by omega, by go_num, HM.out⟩
                case measure => simp [intOf]; omega
            · have hex : ¬ (j : Int) < (na : Int) ∨ ((j : Int) < (na : Int) ∧ ¬ (j : Int) < 20) := by omega
              have c6 := learn_to HM.out.lm (by omega) (s := (i : Int)) ⟨by omega, by omega⟩ (v := [110, 101, 120, 116]) (r := 0) (y := ⟨C, i, andNext tx i C⟩) (learn_new (by omega) (by omega) (by show (C : Int) ≤ _; omega) (cutOff_high (Int.le_refl _)))
              clear HS hlt
              rcases hex with hex | hex
              all_goals
                go_wp2_with fail
                refine Calls.mono c6 ?_
                rintro e w6 ⟨rfl, h6, k6⟩
                have H6 : Hid (LM w w6 L M (q + 1) ⟨C, i, andNext tx i C⟩) := HM.out.step h6 k6
                clear h6 k6 c6 HM
                go_wp2_with fail
                refine Calls.mono (take_any H6.out.lm) ?_
                rintro e w7 ⟨m7, v7, rfl, n7, t7, h7, k7⟩
                have e7 := andNext_next n7
                subst e7
                have H7 : Hid (LM w w7 L M (q + 1) ⟨C, i + 1, andNext tx i C⟩) := H6.out.step h7 k7
                have T7 : Hid (Txs w7 w6.heap.size v7 [[110, 101, 120, 116]]) := by show Txs _ _ _ _; rw [← andNext_vals (N := i) (C := C)]; exact t7
                clear h7 k7 H6 n7 t7
                go_wp2_with fail
                refine Calls.mono (texts_yes (T7.out.kept ((Kept.refl (fun _ => True) _).alloc _) (fun _ _ => trivial)) (Txs.block (ss := [[110, 101, 120, 116]]) (heap_alloc_new _ _) (by decide)) (by decide)) ?_
                rintro e w8 ⟨rfl, m8, rfl⟩
                have H8 : Hid (LM w _ L M (q + 1) ⟨C, i + 1, andNext tx i C⟩) := H7.out.ahead (((Kept.refl (fun _ => True) w7).alloc (.cells #[.string ⟨#[110, 101, 120, 116]⟩] 9)).drewN m8)
                clear H7 T7
                generalize (w7.alloc (.cells #[.string ⟨#[110, 101, 120, 116]⟩] 9)).drewN m8 = w8 at *
                go_wp2_with fail
                refine Calls.mono (next_any H8.out.lm) ?_
                rintro e w9 ⟨m9, rfl, n9, k9⟩
                have e9 := andNext_next' n9
                subst e9
                clear n9
                have hpn : ((i + 1 : Nat) : Int) = (i : Int) + 1 := by omega
                rw [hpn]
                go_wp2_with fail
                refine Calls.mono known_any ?_
                rintro e w10 ⟨rfl, k10⟩
                go_wp2
                go_ret
                exact ⟨rfl, (H8.out.kept.trans k9).trans k10⟩

end Go.Proofs.Ytmejeiadfcdogaa
