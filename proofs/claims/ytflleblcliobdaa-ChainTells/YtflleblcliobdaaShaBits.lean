/-
  Plain facts: how the model's operations on words of 32 bits read on plain numbers.
-/
import Derived.Test.YtflleblcliobdaaSumPlain
import Derived.Laws.BitsAllLaws
namespace Go.Proofs.Ytflleblcliobdaa

theorem u32w (n : Nat) : IntKind.u32.wrap (n : Int) = ((n % 4294967296 : Nat) : Int) := by
  simp [IntKind.wrap, IntKind.bits, IntKind.signed]
theorem rotr_bits (x n : Nat) (hx : x < 4294967296) : bits BinOp.or .u32 ((x : Int) / 2 ^ n) (IntKind.u32.wrap ((x : Int) * 2 ^ (32 - n))) = ((rotr x n : Nat) : Int) := by
  have e1 : (x : Int) / 2 ^ n = ((x / 2 ^ n : Nat) : Int) := by simp
  have e2 : (x : Int) * 2 ^ (32 - n) = ((x * 2 ^ (32 - n) : Nat) : Int) := by simp
  rw [e1, e2, u32w, u32_or_nat _ _ (div_lt32 _ hx) (Nat.mod_lt _ (by decide))]
  rfl
theorem xor_bits (a b : Nat) (ha : a < 4294967296) (hb : b < 4294967296) : bits BinOp.xor .u32 (a : Int) (b : Int) = ((a ^^^ b : Nat) : Int) := u32_xor_nat a b ha hb
theorem and_bits (a b : Nat) (ha : a < 4294967296) (hb : b < 4294967296) : bits BinOp.and .u32 (a : Int) (b : Int) = ((a &&& b : Nat) : Int) := u32_and_nat a b ha hb

end Go.Proofs.Ytflleblcliobdaa
