/-
  DedupOnce: each request is done once, and answered the same again.
-/
import Derived.Test.YtmiccehdljammaaEOnce
import Derived.Test.YtmiccehdljammaaEAsks
import Derived.Deep.CutRange
namespace Go.Proofs.Ytmiccehdljammaa
open Go.RowKit

set_option maxRecDepth 100000 in
set_option maxHeartbeats 4000000 in
theorem dedupOnce_any {w : World} {a : Option Addr} {n cap : Nat} (h : IsInts w a n) :
    Calls Try.prog 3 #[.slice a n cap] w fun e w' => e = .returned (.bool true) ∧ Kept (fun _ => True) w w' := by
  obtain ⟨tx, htx⟩ := tx_some
  have HI : Hid (IsInts w a n) := h
  clear h
  go_enter Try.func3, Try.ntmps3
  go_wp2_with fail
  refine Calls.mono (new_ok 4 (by decide) (by decide)) ?_
  rintro e w1 ⟨rfl, h1, k1⟩
  have H1 : Hid (TM w w1 w.heap.size (.slice none 0 0) 4 (upTo tx 0)) := ⟨h1, k1, Nat.le_refl _, fun k hk => by simp [Value.ownBlock] at hk⟩
  clear h1 k1
  generalize w.heap.size = B at *
  go_wp2_with fail
  go_loopw [5, 6] (fun t u wr => ∃ (i : Nat) (v : Value), i ≤ n ∧ i ≤ 30 ∧ t = .int .i64 i ∧ u = .int .i64 i ∧ TM w wr B v 4 (upTo tx i)) (fun _ u _ => 30 - (intOf u).toNat)
  case atStart => exact ⟨0, _, Nat.zero_le _, Nat.zero_le _, rfl, rfl, H1.out⟩
  case round =>
    obtain ⟨i, v, hi, hi3, rfl, rfl, hT⟩ := hrel
    have HT : Hid (TM w wr B v 4 (upTo tx i)) := hT
    clear hT H1
    by_cases hc : i < n ∧ i < 30
    · obtain ⟨hin, hi30⟩ := hc
      obtain ⟨b, off, z, rfl, hz, hcell⟩ := int_at HI.out hin
      have c0 := hcell wr HT.out.kept
      have g1 : (i : Int) < (n : Int) := by omega
      have g2 : (i : Int) < 30 := by omega
      have g0 : (0 : Int) ≤ (i : Int) := by omega
      clear hcell
      obtain ⟨Z, q, hZ, hq, hq4⟩ : ∃ (Z : Int) (q : Nat), Hid (Z = if z < 0 then -(z + 1) else z) ∧ Z.tmod 4 = (q : Int) ∧ q < 4 := by
        unfold Fit64 at hz
        obtain ⟨m, hm⟩ : ∃ m : Nat, (if z < 0 then -(z + 1) else z) = (m : Int) := by
          refine ⟨(if z < 0 then -(z + 1) else z).toNat, ?_⟩
          split <;> omega
        exact ⟨_, m % 4, rfl, by rw [hm]; exact Int.ofNat_tmod m 4, Nat.mod_lt _ (by decide)⟩
      unfold Fit64 at hz
      go_upto_if 38 with fail
      go_cut [7] from 38 to 41 (fun s wx => s = .int .i64 Z ∧ wr = wx)
      case first =>
        by_cases hneg : z < 0
        · have w1 : IntKind.i64.wrap (z + 1) = z + 1 := by simp [IntKind.wrap, IntKind.bits, IntKind.signed]; omega
          have w2 : IntKind.i64.wrap (-(z + 1)) = -(z + 1) := by simp [IntKind.wrap, IntKind.bits, IntKind.signed]; omega
          go_wp2_with fail
          go_meet
          exact ⟨by rw [hZ.out, if_pos hneg], rfl⟩
        · go_wp2_with fail
          go_meet
          exact ⟨by rw [hZ.out, if_neg (by omega)], rfl⟩
      case rest =>
      obtain ⟨rfl, rfl⟩ := hcut
      clear hZ c0 hz
      have wq : IntKind.i64.wrap (q : Int) = (q : Int) := by simp [IntKind.wrap, IntKind.bits, IntKind.signed]; omega
      go_wp2_with fail
      go_loopw [5, 8] (fun t u wx => ∃ (k : Nat) (v : Value), k ≤ q + 1 ∧ t = .int .i64 (if k = 0 then i else i + 1 : Nat) ∧ u = .int .i64 k ∧ TM w wx B v 4 (upTo tx (if k = 0 then i else i + 1))) (fun _ u _ => q + 1 - (intOf u).toNat)
      case atStart => exact ⟨0, v, Nat.zero_le _, rfl, rfl, HT.out⟩
      case round =>
        obtain ⟨k, v', hk, rfl, rfl, hT'⟩ := hrel
        have HT' : Hid (TM w wr B v' 4 (upTo tx (if k = 0 then i else i + 1))) := hT'
        clear hT' HT
        by_cases hkq : k ≤ q
        · have g3 : (k : Int) ≤ (q : Int) := by omega
          by_cases hk0 : k = 0
          · subst hk0
            simp only [if_true] at HT'
            have ca := ask_to HT'.out.tb [99, 108, 105, 101, 110, 116] i (upTo_fresh i)
            have cd := fun W v (h : Pt W B v 4 (upTo tx i)) => done_to h (Nat.le_trans (upTo_length i) (by decide)) (by decide) [99, 108, 105, 101, 110, 116] i (tx i) (upTo_done i)
            have ct := conv_tx htx i
            generalize hU : upTo tx i = U at *
            generalize hU1 : upTo tx (i + 1) = U1 at *
            have HU1 : Hid (upTo tx (i + 1) = U1) := hU1
            generalize tx i = T at *
            clear hU hU1
            go_wp2_with fail
            refine Calls.mono ca ?_
            rintro e w2 ⟨rfl, k2⟩
            have H2 : Hid (TM w w2 B v' 4 U) := HT'.out.ahead k2
            clear ca k2 HT'
            go_wp2_with fail
            refine Calls.mono (cd _ _ H2.out.tb) ?_
            rintro e w3 ⟨rfl, v3, s3⟩
            have H3 : Hid (TM w w3 B v3 4 U1) := H2.out.step s3
            clear cd s3 H2
            go_wp2_with fail
            go_roundw
            case rel => exact ⟨1, v3, by omega, by go_num, by go_num, by simpa [HU1.out] using H3.out⟩
            case measure => simp [intOf]
          · have hk0' : ((k : Int) == 0) = false := by simpa using hk0
            simp only [hk0, if_false] at HT' ⊢
            have ca := ask_to HT'.out.tb [99, 108, 105, 101, 110, 116] i (upTo_again i)
            have ct := conv_tx htx i
            generalize hU1 : upTo tx (i + 1) = U1 at *
            have HU1 : Hid (upTo tx (i + 1) = U1) := hU1
            have HK0 : Hid (k ≠ 0) := hk0
            generalize tx i = T at *
            clear hU1 hk0
            go_wp2_with fail
            refine Calls.mono ca ?_
            rintro e w2 ⟨rfl, k2⟩
            have H2 : Hid (TM w w2 B v' 4 U1) := HT'.out.ahead k2
            clear ca k2 HT'
            go_wp2_with fail
            go_roundw
            case rel => exact ⟨k + 1, v', by omega, by simp, by go_num, by simpa [HU1.out] using H2.out⟩
            case measure => simp [intOf]; omega
        · have hk0 : k ≠ 0 := by omega
          have g3 : ¬ ((k : Int) ≤ (q : Int)) := by omega
          simp only [hk0, if_false] at HT' ⊢
          have ca := ask_to HT'.out.tb [99, 108, 105, 101, 110, 116] ((i : Int) - 1) (upTo_past i)
          clear hk0
          by_cases hi0 : i = 0
          · subst hi0
            clear ca
            go_wp2_with fail
            go_roundw
            case rel => exact ⟨1, v', by omega, by omega, by go_num, by go_num, HT'.out⟩
            case measure => simp [intOf]
          · have g4 : (0 : Int) < (i : Int) := by omega
            go_wp2_with fail
            refine Calls.mono ca ?_
            rintro e w2 ⟨rfl, k2⟩
            have H2 : Hid (TM w w2 B v' 4 (upTo tx (i + 1))) := HT'.out.ahead k2
            clear ca k2 HT'
            go_wp2_with fail
            go_roundw
            case rel => exact ⟨i + 1, v', by omega, by omega, by go_num, by go_num, H2.out⟩
            case measure => simp [intOf]; omega
    · have hN : i = n ∨ i = 30 := by omega
      by_cases hin : i = n
      · subst hin
        have g1 : ¬ ((i : Int) < (i : Int)) := by omega
        clear hN hc
        go_wp2_with fail
        refine Calls.mono known_any ?_
        rintro e w2 ⟨rfl, k2⟩
        go_wp2_with fail
        go_ret
        exact ⟨rfl, HT.out.kept.trans k2⟩
      · obtain rfl : i = 30 := by omega
        have g1 : (30 : Int) < (n : Int) := by omega
        have g2 : ((30 : Int) == (n : Int)) = false := by simp; omega
        clear hN hc
        go_wp2_with fail
        refine Calls.mono known_any ?_
        rintro e w2 ⟨rfl, k2⟩
        go_wp2_with fail
        go_ret
        exact ⟨rfl, HT.out.kept.trans k2⟩

end Go.Proofs.Ytmiccehdljammaa
