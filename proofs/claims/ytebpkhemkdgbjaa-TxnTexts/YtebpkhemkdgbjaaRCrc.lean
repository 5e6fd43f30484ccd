/-
  The document's own Crc (conclaveref2).
-/
import Derived.Test.YtebpkhemkdgbjaaSCrc
namespace Go.Proofs.Ytebpkhemkdgbjaa
open Go.RowKit

set_option maxHeartbeats 1000000 in
theorem rcrc_any {w : World} {ao : Option Addr} {cap : Nat} {bs : List UInt8} (hh : Has w ao bs) (hl : (bs.length : Int) ≤ 140737488355328) :
    Calls Try.prog 75 #[.slice ao bs.length cap] w fun e w' => e = .returned (.int .u32 (crcOf bs : Nat)) ∧ w' = w := by
  have HH : Hid (Has w ao bs) := hh
  clear hh
  go_enter Try.func75, Try.ntmps75
  go_wp2
  go_loopw [4, 3] (fun t r wr => ∃ k : Nat, k ≤ bs.length ∧ t = .int .i64 k ∧ r = .int .u32 (crcFrom 4294967295 (bs.take k) : Nat) ∧ wr = w) (fun t _ _ => bs.length - (intOf t).toNat)
  case atStart => exact ⟨0, Nat.zero_le _, rfl, rfl, rfl⟩
  case round =>
    obtain ⟨k, hk, rfl, rfl, rfl⟩ := hrel
    by_cases hlt : k < bs.length
    · obtain ⟨b1, o1, rfl, h1⟩ := has_plain HH.out (by omega)
      have c1 := h1 k hlt
      have hkl : (k : Int) < (bs.length : Int) := by omega
      have hk0 : (0 : Int) ≤ (k : Int) := by omega
      have hs := crcFrom_take bs k hlt 4294967295
      have hb := crcFrom_lt 4294967295 (bs.take k) (by decide)
      generalize crcFrom 4294967295 (bs.take k) = c at *
      have hy := (bs[k]).toNat_lt
      have hx := xor_bits c (bs[k]).toNat hb (by omega)
      generalize bs[k] = y at *
      clear h1
      go_wp2
      go_loopw [5, 3] (fun t r v => ∃ j : Nat, j ≤ 8 ∧ t = .int .i64 j ∧ r = .int .u32 (crcSteps j (c ^^^ y.toNat) : Nat) ∧ v = wr) (fun t _ _ => 8 - (intOf t).toNat)
      case atStart => exact ⟨0, Nat.zero_le _, rfl, rfl, rfl⟩
      case round =>
        obtain ⟨j, hj, rfl, rfl, rfl⟩ := hrel
        by_cases hlj : j < 8
        · have hjl : (j : Int) < 8 := by omega
          have st := crcSteps_succ j (c ^^^ y.toNat)
          have sb := crcSteps_lt j (c ^^^ y.toNat) (Nat.xor_lt_two_pow (n := 32) hb (by omega))
          generalize crcSteps j (c ^^^ y.toNat) = s at *
          have lb := low_bits s sb
          by_cases hodd : s % 2 = 1
          · have xb := xor_bits (s / 2) 3988292384 (by omega) (by decide)
            rw [hodd] at lb
            go_wp2
            go_roundw
            case rel =>
              refine ⟨j + 1, by omega, by go_num, ?_, by trivial⟩
              rw [st, crcStep, if_pos hodd]
              exact congrArg _ xb
            case measure => simp [intOf]; omega
          · have h0 : s % 2 = 0 := by omega
            rw [h0] at lb
            go_wp2
            go_roundw
            case rel =>
              refine ⟨j + 1, by omega, by go_num, ?_, by trivial⟩
              rw [st, crcStep, if_neg hodd]
              rfl
            case measure => simp [intOf]; omega
        · have hjl : ¬ ((j : Int) < 8) := by omega
          obtain rfl : j = 8 := by omega
          go_wp2
          go_roundw
          case rel =>
            refine ⟨k + 1, by omega, by go_num, ?_, by trivial⟩
            rw [hs]
            rfl
          case measure => simp [intOf]; omega
    · have hkl : ¬ ((k : Int) < (bs.length : Int)) := by omega
      obtain rfl : k = bs.length := by omega
      rw [List.take_length]
      have hb := crcFrom_lt 4294967295 bs (by decide)
      have hc : crcOf bs = crcFrom 4294967295 bs ^^^ 4294967295 := rfl
      generalize crcFrom 4294967295 bs = c at *
      have hnot : bits BinOp.xor .u32 (c : Int) 4294967295 = ((c ^^^ 4294967295 : Nat) : Int) := xor_bits c 4294967295 hb (by decide)
      go_wp2
      go_ret
      exact ⟨rfl, rfl⟩

end Go.Proofs.Ytebpkhemkdgbjaa
