/-
  Plain facts on the sums of chapter 2: CRC-32, SHA-256, hexadecimal digits: no Go in sight.
-/
import Derived.KernelRfl
import Derived.WalkKit
namespace Go.Proofs.Ytciecjnmiacmeaa

/-! ### CRC-32, bit by bit -/
def crcStep (c : Nat) : Nat := if c % 2 = 1 then (c / 2) ^^^ 3988292384 else c / 2
def crcSteps : Nat → Nat → Nat
  | 0, c => c
  | k + 1, c => crcSteps k (crcStep c)
def crcByte (c : Nat) (b : UInt8) : Nat := crcSteps 8 (c ^^^ b.toNat)
def crcFrom (c : Nat) (bs : List UInt8) : Nat := bs.foldl crcByte c
def crcOf (bs : List UInt8) : Nat := crcFrom 4294967295 bs ^^^ 4294967295

theorem crcStep_lt (c : Nat) (h : c < 4294967296) : crcStep c < 4294967296 := by
  unfold crcStep
  split
  · exact Nat.xor_lt_two_pow (n := 32) (by omega) (by decide)
  · omega
theorem crcSteps_lt (k c : Nat) (h : c < 4294967296) : crcSteps k c < 4294967296 := by
  induction k generalizing c with
  | zero => exact h
  | succ k ih => exact ih _ (crcStep_lt c h)
theorem crcByte_lt (c : Nat) (b : UInt8) (h : c < 4294967296) : crcByte c b < 4294967296 := by
  refine crcSteps_lt 8 _ (Nat.xor_lt_two_pow (n := 32) h ?_)
  have := b.toNat_lt
  omega
theorem crcFrom_lt (c : Nat) (bs : List UInt8) (h : c < 4294967296) : crcFrom c bs < 4294967296 := by
  induction bs generalizing c with
  | nil => exact h
  | cons b bs ih => exact ih _ (crcByte_lt c b h)
theorem crcOf_lt (bs : List UInt8) : crcOf bs < 4294967296 := Nat.xor_lt_two_pow (n := 32) (crcFrom_lt _ _ (by decide)) (by decide)

theorem top_of (x : Nat) (h : x < 2147483648) : (x ^^^ 3988292384).testBit 31 = true := by
  rw [Nat.testBit_xor, Nat.testBit_lt_two_pow (i := 31) (by omega)]
  decide
theorem xor_inj {a b c : Nat} (h : a ^^^ c = b ^^^ c) : a = b := by
  have := congrArg (· ^^^ c) h
  simpa [Nat.xor_assoc] using this
theorem crcStep_inj (a b : Nat) (ha : a < 4294967296) (hb : b < 4294967296) (h : crcStep a = crcStep b) : a = b := by
  unfold crcStep at h
  have ta := top_of (a / 2) (by omega)
  have tb := top_of (b / 2) (by omega)
  have na : (a / 2).testBit 31 = false := Nat.testBit_lt_two_pow (i := 31) (by omega)
  have nb : (b / 2).testBit 31 = false := Nat.testBit_lt_two_pow (i := 31) (by omega)
  by_cases h1 : a % 2 = 1 <;> by_cases h2 : b % 2 = 1
  · rw [if_pos h1, if_pos h2] at h
    have := xor_inj h
    omega
  · rw [if_pos h1, if_neg h2] at h
    rw [h, nb] at ta; cases ta
  · rw [if_neg h1, if_pos h2] at h
    rw [← h, na] at tb; cases tb
  · rw [if_neg h1, if_neg h2] at h
    omega
theorem crcSteps_inj (k a b : Nat) (ha : a < 4294967296) (hb : b < 4294967296) (h : crcSteps k a = crcSteps k b) : a = b := by
  induction k generalizing a b with
  | zero => exact h
  | succ k ih => exact crcStep_inj a b ha hb (ih _ _ (crcStep_lt a ha) (crcStep_lt b hb) h)
theorem byte_lt32 (b : UInt8) : b.toNat < 2 ^ 32 := by have := b.toNat_lt; omega
/-- One byte, from two unlike sums: unlike sums. -/
theorem crcByte_inj (a b : Nat) (x : UInt8) (ha : a < 4294967296) (hb : b < 4294967296) (h : crcByte a x = crcByte b x) : a = b :=
  xor_inj (crcSteps_inj 8 _ _ (Nat.xor_lt_two_pow (n := 32) ha (byte_lt32 x)) (Nat.xor_lt_two_pow (n := 32) hb (byte_lt32 x)) h)
/-- Two unlike bytes, from one sum: unlike sums. -/
theorem crcByte_turn (a : Nat) (x y : UInt8) (ha : a < 4294967296) (h : crcByte a x = crcByte a y) : x = y := by
  have := crcSteps_inj 8 _ _ (Nat.xor_lt_two_pow (n := 32) ha (byte_lt32 x)) (Nat.xor_lt_two_pow (n := 32) ha (byte_lt32 y)) h
  rw [Nat.xor_comm a, Nat.xor_comm a] at this
  exact UInt8.toNat.inj (xor_inj this)
theorem crcFrom_inj (bs : List UInt8) (a b : Nat) (ha : a < 4294967296) (hb : b < 4294967296) (h : crcFrom a bs = crcFrom b bs) : a = b := by
  induction bs generalizing a b with
  | nil => exact h
  | cons x bs ih => exact crcByte_inj a b x ha hb (ih _ _ (crcByte_lt a x ha) (crcByte_lt b x hb) h)
/-- One byte that is turned turns the sum. -/
theorem crcOf_set (bs : List UInt8) (k : Nat) (y : UInt8) (hk : k < bs.length) (hy : bs[k] ≠ y) : crcOf bs ≠ crcOf (bs.set k y) := by
  intro h
  have h1 := xor_inj h
  have e1 : bs = bs.take k ++ bs[k] :: bs.drop (k + 1) := by rw [List.getElem_cons_drop, List.take_append_drop]
  have e2 : bs.set k y = bs.take k ++ y :: bs.drop (k + 1) := List.set_eq_take_append_cons_drop.trans (if_pos hk)
  rw [e2] at h1
  have cut : ∀ (l r : List UInt8) (x : UInt8), crcFrom 4294967295 (l ++ x :: r) = crcFrom (crcByte (crcFrom 4294967295 l) x) r := fun l r x => by
    unfold crcFrom; rw [List.foldl_append, List.foldl_cons]
  have h2 : crcFrom (crcByte (crcFrom 4294967295 (bs.take k)) bs[k]) (bs.drop (k + 1)) = crcFrom (crcByte (crcFrom 4294967295 (bs.take k)) y) (bs.drop (k + 1)) := by
    rw [← cut, ← cut, ← e1]; exact h1
  have hl := crcFrom_lt 4294967295 (bs.take k) (by decide)
  exact hy (crcByte_turn _ _ _ hl (crcFrom_inj _ _ _ (crcByte_lt _ _ hl) (crcByte_lt _ _ hl) h2))

theorem crc_run : crcOf [49, 50, 51, 52, 53, 54, 55, 56, 57] = 3421780262 := by kernel_rfl
theorem crc_none : crcOf [] = 0 := by kernel_rfl

end Go.Proofs.Ytciecjnmiacmeaa
