/-
  Plain facts on bytes and numbers: no Go in sight.
-/
import Derived.Laws.BitsAllLaws
import Derived.WalkKit
namespace Go.Proofs.Ytflleblcliobdaa
open Go.RowKit

/-- The number that bytes make, the highest first. -/
def be (l : List UInt8) : Nat := l.foldl (fun n b => n * 256 + b.toNat) 0
theorem be_snoc (l : List UInt8) (b : UInt8) : be (l ++ [b]) = be l * 256 + b.toNat := by simp [be]
theorem be_lt_from (l : List UInt8) : ∀ n : Nat, l.foldl (fun n b => n * 256 + b.toNat) n < (n + 1) * 256 ^ l.length := by
  induction l with
  | nil => intro n; simp
  | cons b l ih =>
    intro n
    have h := ih (n * 256 + b.toNat)
    have hb := b.toNat_lt
    rw [List.foldl_cons, List.length_cons, Nat.pow_succ]
    have h2 : (n * 256 + b.toNat + 1) * 256 ^ l.length ≤ ((n + 1) * 256) * 256 ^ l.length := Nat.mul_le_mul_right _ (by omega)
    have h3 : (n + 1) * 256 * 256 ^ l.length = (n + 1) * (256 ^ l.length * 256) := by rw [Nat.mul_assoc, Nat.mul_comm 256]
    omega
theorem be_lt (l : List UInt8) : be l < 256 ^ l.length := by have := be_lt_from l 0; simpa [be] using this
theorem be_lt56 (l : List UInt8) (h : l.length ≤ 7) : be l < 72057594037927936 := by
  have h1 := be_lt l
  have h2 : 256 ^ l.length ≤ 256 ^ 7 := Nat.pow_le_pow_right (by decide) h
  have h3 : 256 ^ 7 = 72057594037927936 := by decide
  omega
theorem be_lt64 (l : List UInt8) (h : l.length ≤ 8) : be l < 18446744073709551616 := by
  have h1 := be_lt l
  have h2 : 256 ^ l.length ≤ 256 ^ 8 := Nat.pow_le_pow_right (by decide) h
  have h3 : 256 ^ 8 = 18446744073709551616 := by decide
  omega
theorem take_drop_snoc (bs : List UInt8) (a j : Nat) (h : a + j < bs.length) : (bs.drop a).take (j + 1) = (bs.drop a).take j ++ [bs[a + j]] := by
  rw [List.take_succ_eq_append_getElem (by simp; omega)]
  simp
theorem or_byte (N : Nat) (b : UInt8) (h : N < 72057594037927936) : bits BinOp.or .u64 ((N : Int) * 256) (IntKind.u64.wrap (b.toNat : Int)) = ((N * 256 + b.toNat : Nat) : Int) := by
  have hb := b.toNat_lt
  have e : IntKind.u64.wrap (b.toNat : Int) = ((b.toNat : Nat) : Int) := by
    simp [IntKind.wrap, IntKind.bits, IntKind.signed]
    omega
  have e2 : ((N : Int) * 256) = ((N * 256 : Nat) : Int) := by simp
  rw [e, e2, u64_or_nat _ _ (by omega) (by omega)]
  have := Nat.two_pow_add_eq_or_of_lt (i := 8) (b := b.toNat) (by omega) N
  rw [show N * 256 = 2 ^ 8 * N from by omega, ← this]

/-- The byte at place i of n. -/
def byteAt (n : Int) (i : Nat) : UInt8 := UInt8.ofNat (n.toNat / 256 ^ i)
/-- The lowest k bytes of n, the highest first. -/
def enc (n : Int) : Nat → List UInt8
  | 0 => []
  | k + 1 => byteAt n k :: enc n k
theorem enc_length (n : Int) (k : Nat) : (enc n k).length = k := by
  induction k with
  | zero => rfl
  | succ k ih => simp [enc, ih]
theorem enc_get (n : Int) (k j : Nat) (h : j < k) : (enc n k)[j]? = some (byteAt n (k - 1 - j)) := by
  induction k generalizing j with
  | zero => omega
  | succ k ih =>
    cases j with
    | zero => simp [enc]
    | succ j =>
      simp only [enc, List.getElem?_cons_succ]
      rw [ih j (by omega)]
      congr 2
      omega
theorem enc_take (n : Int) (k j p : Nat) (h : p + 1 + j = k) : (enc n k).take (j + 1) = (enc n k).take j ++ [byteAt n p] := by
  rw [List.take_add_one, enc_get n k j (by omega), show k - 1 - j = p from by omega]
  rfl
theorem byteAt_toNat (n : Int) (i : Nat) : (byteAt n i).toNat = n.toNat / 256 ^ i % 256 := by
  simp [byteAt, UInt8.toNat_ofNat']
theorem shift_byte (n : Int) (p : Nat) (h0 : 0 ≤ n) (hp : p ≤ 7) :
    ∃ Z : Int, Op.shift BinOp.shr .u64 n .i64 (IntKind.i64.wrap (8 * (p : Int))) = pure (.int .u64 Z) ∧ IntKind.u8.wrap Z = ((byteAt n p).toNat : Int) := by
  have e : IntKind.i64.wrap (8 * (p : Int)) = 8 * (p : Int) := by
    simp [IntKind.wrap, IntKind.bits, IntKind.signed]
    omega
  obtain ⟨N, rfl⟩ := Int.eq_ofNat_of_zero_le h0
  refine ⟨((N / 256 ^ p : Nat) : Int), ?_, ?_⟩
  · rw [e, shift_shr_any .u64 .i64 N (8 * (p : Int)) (by omega)]
    congr 2
    have : min (8 * (p : Int)).toNat IntKind.u64.bits = 8 * p := by simp [IntKind.bits]; omega
    rw [this, Int.pow_mul]
    simp
  · rw [byteAt_toNat]
    simp [IntKind.wrap, IntKind.bits, IntKind.signed]

/-- A Reader's place and refusal. -/
structure RS where
  pos : Nat
  why : Int
/-- The next k bytes as a number. -/
def RS.num (s : RS) (bs : List UInt8) (k : Nat) : Nat × RS :=
  if s.why = 0 then (if s.pos + k ≤ bs.length then (be ((bs.drop s.pos).take k), ⟨s.pos + k, 0⟩) else (0, ⟨bs.length, 10⟩)) else (0, s)
def RS.count (s : RS) (bs : List UInt8) (most : Int) : Nat × RS :=
  if max most 0 < ((s.num bs 4).1 : Int) then (0, ⟨s.pos, 3⟩) else s.num bs 4
/-- How many bytes are left. -/
def leftOf (n at_ : Nat) (why : Int) : Int := if why = 0 then (n : Int) - at_ else 0
def RS.left (s : RS) (bs : List UInt8) : Int := leftOf bs.length s.pos s.why
def RS.text (s : RS) (bs : List UInt8) (most : Int) : List UInt8 × RS :=
  if (s.count bs most).2.left bs < ((s.count bs most).1 : Int) then ([], ⟨bs.length, 10⟩)
  else ((bs.drop (s.count bs most).2.pos).take (s.count bs most).1, ⟨(s.count bs most).2.pos + (s.count bs most).1, (s.count bs most).2.why⟩)
def RS.fail (s : RS) (why : Int) : RS := if s.why = 0 ∧ why ≠ 0 then ⟨s.pos, why⟩ else s
def RS.end_ (s : RS) (bs : List UInt8) : Int × Int :=
  if s.why ≠ 0 then (s.why, s.pos) else if s.pos < bs.length then (11, s.pos) else (0, 0)

theorem RS.num_lt (s : RS) (bs : List UInt8) (k : Nat) : (s.num bs k).1 < 256 ^ k := by
  unfold RS.num
  split
  · split
    · have := be_lt ((bs.drop s.pos).take k)
      rw [List.length_take_of_le (by simp; omega)] at this
      exact this
    · exact Nat.pow_pos (by decide)
  · exact Nat.pow_pos (by decide)
theorem RS.num_lt4 (s : RS) (bs : List UInt8) : (s.num bs 4).1 < 4294967296 := by have := s.num_lt bs 4; simpa using this
theorem RS.num_lt1 (s : RS) (bs : List UInt8) : (s.num bs 1).1 < 256 := by have := s.num_lt bs 1; simpa using this
theorem RS.num_lt8 (s : RS) (bs : List UInt8) : (s.num bs 8).1 < 18446744073709551616 := by have := s.num_lt bs 8; simpa using this
theorem RS.num_pos (s : RS) (bs : List UInt8) (k : Nat) (h : s.pos ≤ bs.length) : (s.num bs k).2.pos ≤ bs.length := by
  unfold RS.num
  split
  · split <;> simp <;> omega
  · exact h
theorem RS.num_no (s : RS) (bs : List UInt8) (k : Nat) (h : (s.num bs k).2.why ≠ 0) : (s.num bs k).1 = 0 := by
  unfold RS.num at *
  split
  · split <;> simp_all
  · rfl
theorem RS.count_lt (s : RS) (bs : List UInt8) (m : Int) : (s.count bs m).1 < 4294967296 := by
  unfold RS.count; split
  · simp
  · exact s.num_lt4 bs
theorem RS.count_pos (s : RS) (bs : List UInt8) (m : Int) (h : s.pos ≤ bs.length) : (s.count bs m).2.pos ≤ bs.length := by
  unfold RS.count; split
  · exact h
  · exact s.num_pos bs 4 h
theorem RS.count_no (s : RS) (bs : List UInt8) (m : Int) (h : (s.count bs m).2.why ≠ 0) : (s.count bs m).1 = 0 := by
  unfold RS.count at *; split
  · rfl
  · rename_i hn; rw [if_neg hn] at h; exact s.num_no bs 4 h
theorem RS.text_pos (s : RS) (bs : List UInt8) (m : Int) (h : s.pos ≤ bs.length) : (s.text bs m).2.pos ≤ bs.length := by
  have hp := s.count_pos bs m h
  have hc := s.count_no bs m
  unfold RS.text
  split
  · simp
  · rename_i hl
    unfold RS.left leftOf at hl
    by_cases hw : (s.count bs m).2.why = 0
    · rw [if_pos hw] at hl; simp; omega
    · have := hc hw; simp; omega
theorem RS.fail_pos (s : RS) (bs : List UInt8) (y : Int) (h : s.pos ≤ bs.length) : (s.fail y).pos ≤ bs.length := by
  unfold RS.fail; split <;> exact h

end Go.Proofs.Ytflleblcliobdaa
