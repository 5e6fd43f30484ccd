/-
  Plain facts: a message's blocks, from itself and from its padded end.
-/
import Derived.Test.YtflleblcliobdaaSPut
import Derived.Test.YtflleblcliobdaaSMix
namespace Go.Proofs.Ytflleblcliobdaa

theorem getD_cut (m : List UInt8) (a j : Nat) (hj : j < 64) : ((m.drop a).take 64).getD j 0 = m.getD (a + j) 0 := by
  simp [List.getD, hj]
theorem wordAt_cut (m : List UInt8) (a i : Nat) (hi : i < 16) : wordAt ((m.drop a).take 64) (4 * i) = wordAt m (a + 4 * i) := by
  unfold wordAt
  rw [getD_cut m a _ (by omega), getD_cut m a _ (by omega), getD_cut m a _ (by omega), getD_cut m a _ (by omega)]
  simp only [Nat.add_assoc]
theorem wordsAt_cut (m : List UInt8) (a : Nat) : wordsAt ((m.drop a).take 64) 0 16 = wordsAt m a 16 := by
  unfold wordsAt
  apply List.map_congr_left
  intro i hi
  rw [List.mem_range] at hi
  rw [Nat.zero_add]
  exact wordAt_cut m a i hi
theorem block_cut (v : H8) (m : List UInt8) (a : Nat) : v.block ((m.drop a).take 64) 0 = v.block m a := by
  unfold H8.block
  rw [wordsAt_cut]

theorem padded_split (b : List UInt8) : padded b = b.take (64 * (b.length / 64)) ++ (padEnd (b.drop (64 * (b.length / 64))) b.length).take (padSize (b.length % 64)) := by
  have hl : (b.drop (64 * (b.length / 64))).length = b.length % 64 := by simp; omega
  have hr : b.length % 64 < 64 := Nat.mod_lt _ (by decide)
  unfold padEnd
  rw [hl]
  have hs : padSize (b.length % 64) = 64 ∧ b.length % 64 + 9 ≤ 64 ∨ padSize (b.length % 64) = 128 ∧ 64 < b.length % 64 + 9 := by
    unfold padSize; split <;> omega
  have hz : padSize (b.length % 64) - b.length % 64 - 9 = padZeros b.length := by unfold padZeros; omega
  rw [hz]
  have ll : (b.drop (64 * (b.length / 64)) ++ [128] ++ List.replicate (padZeros b.length) 0 ++ bytesOf (8 * b.length) 8).length = padSize (b.length % 64) := by
    simp only [List.length_append, hl, List.length_cons, List.length_nil, List.length_replicate, bytesOf_length]
    omega
  rw [List.take_left' ll]
  unfold padded
  have hb : b = b.take (64 * (b.length / 64)) ++ b.drop (64 * (b.length / 64)) := (List.take_append_drop _ _).symm
  have ha : ∀ x y : List UInt8, b.take (64 * (b.length / 64)) ++ (b.drop (64 * (b.length / 64)) ++ [128] ++ x ++ y) = b ++ [128] ++ x ++ y := fun x y => by
    rw [← List.append_assoc, ← List.append_assoc, ← List.append_assoc, ← hb]
  rw [ha]
theorem padEnd_length (last : List UInt8) (n : Nat) (h : last.length < 64) : (padEnd last n).length = 128 := by
  rw [← pad_put last n h, putN_length, putN_length, List.length_set]
  simp; omega
/-- A block of the message itself. -/
theorem cut_front64 (b : List UInt8) (k : Nat) (h : k < b.length / 64) : ((padded b).drop (64 * k)).take 64 = (b.drop (64 * k)).take 64 := by
  unfold padded
  rw [List.append_assoc, List.append_assoc, List.drop_append_of_le_length (by omega), List.take_append_of_le_length (by simp; omega)]
/-- A block of its padded end. -/
theorem cut_end64 (b : List UInt8) (j : Nat) (h : 64 * j + 64 ≤ padSize (b.length % 64)) : ((padded b).drop (64 * (b.length / 64 + j))).take 64 = ((padEnd (b.drop (64 * (b.length / 64))) b.length).drop (64 * j)).take 64 := by
  have lt : (b.take (64 * (b.length / 64))).length = 64 * (b.length / 64) := by simp; omega
  rw [padded_split, List.drop_append, lt, List.drop_eq_nil_of_le (by omega), List.nil_append, show 64 * (b.length / 64 + j) - 64 * (b.length / 64) = 64 * j by omega, List.drop_take, List.take_take, Nat.min_eq_left (by omega)]
theorem blocks_count (b : List UInt8) : (b.length + 72) / 64 = b.length / 64 + padSize (b.length % 64) / 64 := by
  unfold padSize
  split <;> omega

end Go.Proofs.Ytflleblcliobdaa
