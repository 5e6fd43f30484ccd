/-
  Words of 32 bits: turned, read from four bytes.
-/
import Derived.Test.YtflleblcliobdaaSCrc
namespace Go.Proofs.Ytflleblcliobdaa
open Go.RowKit

theorem getD_at {α : Type} (l : List α) {i : Nat} (h : i < l.length) {d : α} : l.getD i d = l[i] := by simp [List.getD, h]
theorem and31 (n : Nat) (h0 : 0 < n) (h1 : n < 32) : bits BinOp.and .u64 (IntKind.u64.wrap (-(n : Int))) 31 = ((32 - n : Nat) : Int) := by
  have e : IntKind.u64.wrap (-(n : Int)) = ((18446744073709551616 - n : Nat) : Int) := by
    simp [IntKind.wrap, IntKind.bits, IntKind.signed]; omega
  rw [e]
  have := u64_and_nat (18446744073709551616 - n) 31 (by omega) (by decide)
  rw [show (31 : Nat) = 2 ^ 5 - 1 from rfl, Nat.and_two_pow_sub_one_eq_mod] at this
  have e2 : (18446744073709551616 - n) % 2 ^ 5 = 32 - n := by omega
  rw [e2] at this
  exact this

theorem rot_eq (x n : Nat) (hx : x < 4294967296) (h1 : n < 32) : bits BinOp.or .u32 ((x : Int) * 2 ^ (32 - n) % 4294967296) ((x : Int) / 2 ^ (32 - (32 - n))) = ((rotr x n : Nat) : Int) := by
  have e1 : (x : Int) / 2 ^ (32 - (32 - n)) = ((x / 2 ^ n : Nat) : Int) := by
    rw [show 32 - (32 - n) = n by omega]
    simp
  have e2 : (x : Int) * 2 ^ (32 - n) % 4294967296 = ((x * 2 ^ (32 - n) % 4294967296 : Nat) : Int) := by simp
  rw [e1, e2, u32_or_nat _ _ (Nat.mod_lt _ (by decide)) (div_lt32 _ hx), Nat.or_comm]
  rfl

set_option maxHeartbeats 1000000 in
theorem rot_any {w : World} (x n : Nat) (hx : x < 4294967296) (h0 : 0 < n) (h1 : n < 32) :
    Calls Try.prog 68 #[.int .u32 x, .int .i64 (-(n : Int))] w fun e w' => e = .returned (.int .u32 (rotr x n : Nat)) ∧ w' = w := by
  have ha := and31 n h0 h1
  have hr := rot_eq x n hx h1
  go_enter Try.func68, Try.ntmps68
  go_wp2
  go_ret
  exact ⟨rfl, rfl⟩

set_option maxHeartbeats 1000000 in
theorem turn_any {w : World} (x n : Nat) (hx : x < 4294967296) (h0 : 0 < n) (h1 : n < 32) :
    Calls Try.prog 67 #[.int .u32 x, .int .i64 n] w fun e w' => e = .returned (.int .u32 (rotr x n : Nat)) ∧ w' = w := by
  have c := rot_any (w := w) x n hx h0 h1
  go_enter Try.func67, Try.ntmps67
  go_wp2_with (go_at_call 68; refine Calls.mono c ?_; rintro e _ ⟨rfl, rfl⟩)
  go_ret
  exact ⟨rfl, rfl⟩

set_option maxHeartbeats 1000000 in
theorem turns_any {w : World} (x n m k : Nat) (hx : x < 4294967296) (hn : 0 < n ∧ n < 32) (hm : 0 < m ∧ m < 32) (hk : 0 < k ∧ k < 32) :
    Calls Try.prog 65 #[.int .u32 x, .int .i64 n, .int .i64 m, .int .i64 k] w fun e w' => e = .returned (.int .u32 (rotr x n ^^^ rotr x m ^^^ rotr x k : Nat)) ∧ w' = w := by
  have c1 := turn_any (w := w) x n hx hn.1 hn.2
  have c2 := turn_any (w := w) x m hx hm.1 hm.2
  have c3 := turn_any (w := w) x k hx hk.1 hk.2
  have r1 := rotr_lt x n hx
  have r2 := rotr_lt x m hx
  have r3 := rotr_lt x k hx
  generalize rotr x n = a at *
  generalize rotr x m = b at *
  generalize rotr x k = c at *
  have x1 := xor_bits a b r1 r2
  have x2 := xor_bits (a ^^^ b) c (xor_lt32 r1 r2) r3
  go_enter Try.func65, Try.ntmps65
  go_wp2_with fail
  refine Calls.mono c1 ?_
  rintro e _ ⟨rfl, rfl⟩
  go_wp2_with fail
  refine Calls.mono c2 ?_
  rintro e _ ⟨rfl, rfl⟩
  go_wp2_with fail
  refine Calls.mono c3 ?_
  rintro e _ ⟨rfl, rfl⟩
  go_wp2
  go_ret
  exact ⟨rfl, rfl⟩

/-- Four bytes as a word, by 'or'. -/
theorem word_or (a b c d : Nat) (_ha : a < 256) (hb : b < 256) (hc : c < 256) (hd : d < 256) : ((a * 16777216 ||| b * 65536) ||| c * 256) ||| d = a * 16777216 + b * 65536 + c * 256 + d := by
  have e1 : a * 16777216 ||| b * 65536 = a * 16777216 + b * 65536 := by
    have := Nat.two_pow_add_eq_or_of_lt (i := 24) (b := b * 65536) (by omega) a
    rw [show (2 : Nat) ^ 24 = 16777216 from rfl, Nat.mul_comm 16777216 a] at this
    exact this.symm
  have e2 : (a * 16777216 + b * 65536) ||| c * 256 = a * 16777216 + b * 65536 + c * 256 := by
    have := Nat.two_pow_add_eq_or_of_lt (i := 16) (b := c * 256) (by omega) (a * 256 + b)
    rw [show (2 : Nat) ^ 16 * (a * 256 + b) = a * 16777216 + b * 65536 by omega] at this
    exact this.symm
  have e3 : (a * 16777216 + b * 65536 + c * 256) ||| d = a * 16777216 + b * 65536 + c * 256 + d := by
    have := Nat.two_pow_add_eq_or_of_lt (i := 8) (b := d) (by omega) (a * 65536 + b * 256 + c)
    rw [show (2 : Nat) ^ 8 * (a * 65536 + b * 256 + c) = a * 16777216 + b * 65536 + c * 256 by omega] at this
    exact this.symm
  rw [e1, e2, e3]

theorem word_bits (a b c d : Nat) (ha : a < 256) (hb : b < 256) (hc : c < 256) (hd : d < 256) :
    bits BinOp.or .u32 (bits BinOp.or .u32 (bits BinOp.or .u32 ((a : Int) * 16777216) ((b : Int) * 65536)) ((c : Int) * 256)) (d : Int) = ((a * 16777216 + b * 65536 + c * 256 + d : Nat) : Int) := by
  have h1 : bits BinOp.or .u32 ((a : Int) * 16777216) ((b : Int) * 65536) = ((a * 16777216 ||| b * 65536 : Nat) : Int) := u32_or_nat (a * 16777216) (b * 65536) (by omega) (by omega)
  have l1 := or_lt32 (a := a * 16777216) (b := b * 65536) (by omega) (by omega)
  have h2 : bits BinOp.or .u32 ((a * 16777216 ||| b * 65536 : Nat) : Int) ((c : Int) * 256) = (((a * 16777216 ||| b * 65536) ||| c * 256 : Nat) : Int) := u32_or_nat _ (c * 256) l1 (by omega)
  have l2 := or_lt32 (b := c * 256) l1 (by omega)
  rw [h1, h2, u32_or_nat _ d l2 (by omega), word_or a b c d ha hb hc hd]

set_option maxHeartbeats 1000000 in
theorem word_any {w : World} {ao : Option Addr} {cap : Nat} {bs : List UInt8} (hh : Has w ao bs) (h4 : 4 ≤ bs.length) (hl : (bs.length : Int) ≤ 1000000) :
    Calls Try.prog 66 #[.slice ao bs.length cap] w fun e w' => e = .returned (.int .u32 (wordAt bs 0 : Nat)) ∧ ∃ m, w' = w.drewN m := by
  obtain ⟨b, o, rfl, hc⟩ := has_plain hh (by omega)
  have c0 := hc 0 (by omega)
  have c1 := hc 1 (by omega)
  have c2 := hc 2 (by omega)
  have c3 := hc 3 (by omega)
  rw [Nat.add_zero] at c0
  have hwd : wordAt bs 0 = (bs[0]).toNat * 16777216 + (bs[1]).toNat * 65536 + (bs[2]).toNat * 256 + (bs[3]).toNat := by
    unfold wordAt
    rw [getD_at _ (show 0 < bs.length by omega), getD_at _ (show 0 + 1 < bs.length by omega), getD_at _ (show 0 + 2 < bs.length by omega), getD_at _ (show 0 + 3 < bs.length by omega)]
  have y0 := (bs[0]).toNat_lt
  have y1 := (bs[1]).toNat_lt
  have y2 := (bs[2]).toNat_lt
  have y3 := (bs[3]).toNat_lt
  have hb := word_bits (bs[0]).toNat (bs[1]).toNat (bs[2]).toNat (bs[3]).toNat y0 y1 y2 y3
  rw [← hwd] at hb
  clear hwd hc hh
  generalize (bs[0]).toNat = b0 at *
  generalize (bs[1]).toNat = b1 at *
  generalize (bs[2]).toNat = b2 at *
  generalize (bs[3]).toNat = b3 at *
  generalize wordAt bs 0 = r at *
  have g0 : (0 : Int) < (bs.length : Int) := by omega
  have g1 : (1 : Int) < (bs.length : Int) := by omega
  have g2 : (2 : Int) < (bs.length : Int) := by omega
  have g3 : (3 : Int) < (bs.length : Int) := by omega
  go_enter Try.func66, Try.ntmps66
  go_wp2
  go_quiet (fail)
  go_wp2
  go_ret
  exact ⟨rfl, _, rfl⟩

end Go.Proofs.Ytflleblcliobdaa
