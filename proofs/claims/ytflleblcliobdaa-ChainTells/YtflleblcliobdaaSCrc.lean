/-
  The program's Crc: the CRC-32 of the bytes, bit by bit.
-/
import Derived.Test.YtflleblcliobdaaSB
import Derived.Test.YtflleblcliobdaaShaBits
namespace Go.Proofs.Ytflleblcliobdaa
open Go.RowKit

theorem crcSteps_succ (k c : Nat) : crcSteps (k + 1) c = crcStep (crcSteps k c) := by
  induction k generalizing c with
  | zero => rfl
  | succ k ih => exact ih (crcStep c)
theorem crcFrom_take (bs : List UInt8) (k : Nat) (h : k < bs.length) (c : Nat) : crcFrom c (bs.take (k + 1)) = crcByte (crcFrom c (bs.take k)) bs[k] := by
  unfold crcFrom
  rw [List.take_succ_eq_append_getElem h, List.foldl_append]
  rfl
/-- The lowest bit. -/
theorem low_bits (s : Nat) (h : s < 4294967296) : bits BinOp.and .u32 (s : Int) 1 = ((s % 2 : Nat) : Int) := by
  have := and_bits s 1 h (by decide)
  rw [Nat.and_one_is_mod] at this
  exact this

end Go.Proofs.Ytflleblcliobdaa
