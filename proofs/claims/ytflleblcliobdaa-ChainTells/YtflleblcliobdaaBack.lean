/-
  Plain facts: what is written is read.
-/
import Derived.Test.YtflleblcliobdaaPlain
namespace Go.Proofs.Ytflleblcliobdaa
open Go.RowKit

theorem be_from (l : List UInt8) : ∀ n : Nat, l.foldl (fun n b => n * 256 + b.toNat) n = n * 256 ^ l.length + be l := by
  induction l with
  | nil => intro n; simp [be]
  | cons b l ih =>
    intro n
    have e : be (b :: l) = b.toNat * 256 ^ l.length + be l := by
      show l.foldl _ (0 * 256 + b.toNat) = _
      rw [ih]; simp
    rw [List.foldl_cons, ih, e, List.length_cons, Nat.pow_succ, Nat.add_mul, Nat.mul_assoc, Nat.mul_comm 256, Nat.add_assoc]
theorem be_cons (b : UInt8) (l : List UInt8) : be (b :: l) = b.toNat * 256 ^ l.length + be l := by
  show l.foldl _ (0 * 256 + b.toNat) = _
  rw [be_from]; simp
theorem be_enc (n : Int) (k : Nat) : be (enc n k) = n.toNat % 256 ^ k := by
  induction k with
  | zero => simp [enc, be, Nat.mod_one]
  | succ k ih =>
    rw [enc, be_cons, enc_length, ih, byteAt_toNat]
    have h1 : n.toNat % 256 ^ (k + 1) = n.toNat % 256 ^ k + 256 ^ k * (n.toNat / 256 ^ k % 256) := by
      rw [Nat.pow_succ, Nat.mod_mul]
    rw [h1, Nat.mul_comm]; omega
theorem num_back (pre post : List UInt8) (n : Int) (k : Nat) : (⟨pre.length, 0⟩ : RS).num (pre ++ enc n k ++ post) k = (n.toNat % 256 ^ k, ⟨pre.length + k, 0⟩) := by
  have hl : pre.length + k ≤ (pre ++ enc n k ++ post).length := by simp [enc_length]
  unfold RS.num
  rw [if_pos rfl, if_pos hl]
  have e : ((pre ++ enc n k ++ post).drop pre.length).take k = enc n k := by
    rw [List.append_assoc, List.drop_left]
    have := List.take_left (l₁ := enc n k) (l₂ := post)
    rw [enc_length] at this
    exact this
  simp only [e, be_enc]
theorem count_back (pre post : List UInt8) (n : Nat) (most : Int) (hn : n < 4294967296) (hm : (n : Int) ≤ most) : (⟨pre.length, 0⟩ : RS).count (pre ++ enc n 4 ++ post) most = (n, ⟨pre.length + 4, 0⟩) := by
  have e : (⟨pre.length, 0⟩ : RS).num (pre ++ enc n 4 ++ post) 4 = (n, ⟨pre.length + 4, 0⟩) := by
    rw [num_back]
    simp only [Int.toNat_natCast]
    rw [Nat.mod_eq_of_lt (by omega)]
  unfold RS.count
  rw [e, if_neg (by simp; omega)]
theorem text_back (pre post t : List UInt8) (most : Int) (hn : t.length < 4294967296) (hm : (t.length : Int) ≤ most) :
    (⟨pre.length, 0⟩ : RS).text (pre ++ enc (t.length : Nat) 4 ++ t ++ post) most = (t, ⟨pre.length + 4 + t.length, 0⟩) := by
  have e := count_back pre (t ++ post) t.length most hn hm
  rw [← List.append_assoc] at e
  unfold RS.text
  rw [e]
  have hl : ¬ ((⟨pre.length + 4, 0⟩ : RS).left (pre ++ enc (t.length : Nat) 4 ++ t ++ post) < (t.length : Int)) := by
    simp [RS.left, leftOf, enc_length]; omega
  rw [if_neg hl]
  have e2 : ((pre ++ enc (t.length : Nat) 4 ++ t ++ post).drop (pre.length + 4)).take t.length = t := by
    have : (pre ++ enc (t.length : Nat) 4).length = pre.length + 4 := by simp [enc_length]
    rw [← this, List.append_assoc (pre ++ enc (t.length : Nat) 4), List.drop_left, List.take_left]
  simp only [e2]

end Go.Proofs.Ytflleblcliobdaa
