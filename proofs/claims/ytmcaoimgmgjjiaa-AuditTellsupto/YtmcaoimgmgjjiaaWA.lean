/-
  Texts of the proofs, 1 of 52.
-/
import Derived.Laws.BitsAllLaws
import Derived.WalkKit
import Derived.KernelRfl
namespace Go.Proofs.Ytmcaoimgmgjjiaa
open Go.RowKit

def be (l : List UInt8) : Nat := l.foldl (fun n b => n * 256 + b.toNat) 0
theorem be_snoc (l : List UInt8) (b : UInt8) : be (l ++ [b]) = be l * 256 + b.toNat := by simp [be]
theorem be_lt_from (l : List UInt8) : ∀ n : Nat, l.foldl (fun n b => n * 256 + b.toNat) n < (n + 1) * 256 ^ l.length := by
  induction l with
  | nil => intro n; simp
  | cons b l ih =>
    intro n
    have h := ih (n * 256 + b.toNat)
    have hb := b.toNat_lt
    rw [List.foldl_cons, List.length_cons, Nat.pow_succ]
    have h2 : (n * 256 + b.toNat + 1) * 256 ^ l.length ≤ ((n + 1) * 256) * 256 ^ l.length := Nat.mul_le_mul_right _ (by omega)
    have h3 : (n + 1) * 256 * 256 ^ l.length = (n + 1) * (256 ^ l.length * 256) := by rw [Nat.mul_assoc, Nat.mul_comm 256]
    omega
theorem be_lt (l : List UInt8) : be l < 256 ^ l.length := by have := be_lt_from l 0; simpa [be] using this
theorem be_lt56 (l : List UInt8) (h : l.length ≤ 7) : be l < 72057594037927936 := by
  have h1 := be_lt l
  have h2 : 256 ^ l.length ≤ 256 ^ 7 := Nat.pow_le_pow_right (by decide) h
  have h3 : 256 ^ 7 = 72057594037927936 := by decide
  omega
theorem take_drop_snoc (bs : List UInt8) (a j : Nat) (h : a + j < bs.length) : (bs.drop a).take (j + 1) = (bs.drop a).take j ++ [bs[a + j]] := by
  rw [List.take_succ_eq_append_getElem (by simp; omega)]
  simp
theorem or_byte (N : Nat) (b : UInt8) (h : N < 72057594037927936) : bits BinOp.or .u64 ((N : Int) * 256) (IntKind.u64.wrap (b.toNat : Int)) = ((N * 256 + b.toNat : Nat) : Int) := by
  have hb := b.toNat_lt
  have e : IntKind.u64.wrap (b.toNat : Int) = ((b.toNat : Nat) : Int) := by
    simp [IntKind.wrap, IntKind.bits, IntKind.signed]
    omega
  have e2 : ((N : Int) * 256) = ((N * 256 : Nat) : Int) := by simp
  rw [e, e2, u64_or_nat _ _ (by omega) (by omega)]
  have := Nat.two_pow_add_eq_or_of_lt (i := 8) (b := b.toNat) (by omega) N
  rw [show N * 256 = 2 ^ 8 * N from by omega, ← this]

def byteAt (n : Int) (i : Nat) : UInt8 := UInt8.ofNat (n.toNat / 256 ^ i)
def enc (n : Int) : Nat → List UInt8
  | 0 => []
  | k + 1 => byteAt n k :: enc n k
theorem enc_length (n : Int) (k : Nat) : (enc n k).length = k := by
  induction k with
  | zero => rfl
  | succ k ih => simp [enc, ih]
theorem enc_get (n : Int) (k j : Nat) (h : j < k) : (enc n k)[j]? = some (byteAt n (k - 1 - j)) := by
  induction k generalizing j with
  | zero => omega
  | succ k ih =>
    cases j with
    | zero => simp [enc]
    | succ j =>
      simp only [enc, List.getElem?_cons_succ]
      rw [ih j (by omega)]
      congr 2
      omega
theorem enc_take (n : Int) (k j p : Nat) (h : p + 1 + j = k) : (enc n k).take (j + 1) = (enc n k).take j ++ [byteAt n p] := by
  rw [List.take_add_one, enc_get n k j (by omega), show k - 1 - j = p from by omega]
  rfl
theorem byteAt_toNat (n : Int) (i : Nat) : (byteAt n i).toNat = n.toNat / 256 ^ i % 256 := by
  simp [byteAt, UInt8.toNat_ofNat']
theorem shift_byte (n : Int) (p : Nat) (h0 : 0 ≤ n) (hp : p ≤ 7) :
    ∃ Z : Int, Op.shift BinOp.shr .u64 n .i64 (IntKind.i64.wrap (8 * (p : Int))) = pure (.int .u64 Z) ∧ IntKind.u8.wrap Z = ((byteAt n p).toNat : Int) := by
  have e : IntKind.i64.wrap (8 * (p : Int)) = 8 * (p : Int) := by
    simp [IntKind.wrap, IntKind.bits, IntKind.signed]
    omega
  obtain ⟨N, rfl⟩ := Int.eq_ofNat_of_zero_le h0
  refine ⟨((N / 256 ^ p : Nat) : Int), ?_, ?_⟩
  · rw [e, shift_shr_any .u64 .i64 N (8 * (p : Int)) (by omega)]
    congr 2
    have : min (8 * (p : Int)).toNat IntKind.u64.bits = 8 * p := by simp [IntKind.bits]; omega
    rw [this, Int.pow_mul]
    simp
  · rw [byteAt_toNat]
    simp [IntKind.wrap, IntKind.bits, IntKind.signed]

structure RS where
  pos : Nat
  why : Int
def RS.num (s : RS) (bs : List UInt8) (k : Nat) : Nat × RS :=
  if s.why = 0 then (if s.pos + k ≤ bs.length then (be ((bs.drop s.pos).take k), ⟨s.pos + k, 0⟩) else (0, ⟨bs.length, 10⟩)) else (0, s)
def RS.count (s : RS) (bs : List UInt8) (most : Int) : Nat × RS :=
  if max most 0 < ((s.num bs 4).1 : Int) then (0, ⟨s.pos, 3⟩) else s.num bs 4
def leftOf (n at_ : Nat) (why : Int) : Int := if why = 0 then (n : Int) - at_ else 0
def RS.left (s : RS) (bs : List UInt8) : Int := leftOf bs.length s.pos s.why
def RS.text (s : RS) (bs : List UInt8) (most : Int) : List UInt8 × RS :=
  if (s.count bs most).2.left bs < ((s.count bs most).1 : Int) then ([], ⟨bs.length, 10⟩)
  else ((bs.drop (s.count bs most).2.pos).take (s.count bs most).1, ⟨(s.count bs most).2.pos + (s.count bs most).1, (s.count bs most).2.why⟩)
def RS.fail (s : RS) (why : Int) : RS := if s.why = 0 ∧ why ≠ 0 then ⟨s.pos, why⟩ else s
def RS.end_ (s : RS) (bs : List UInt8) : Int × Int :=
  if s.why ≠ 0 then (s.why, s.pos) else if s.pos < bs.length then (11, s.pos) else (0, 0)

theorem RS.num_lt (s : RS) (bs : List UInt8) (k : Nat) : (s.num bs k).1 < 256 ^ k := by
  unfold RS.num
  split
  · split
    · have := be_lt ((bs.drop s.pos).take k)
      rw [List.length_take_of_le (by simp; omega)] at this
      exact this
    · exact Nat.pow_pos (by decide)
  · exact Nat.pow_pos (by decide)
theorem RS.num_lt4 (s : RS) (bs : List UInt8) : (s.num bs 4).1 < 4294967296 := by have := s.num_lt bs 4; simpa using this
theorem RS.num_lt1 (s : RS) (bs : List UInt8) : (s.num bs 1).1 < 256 := by have := s.num_lt bs 1; simpa using this
theorem RS.num_pos (s : RS) (bs : List UInt8) (k : Nat) (h : s.pos ≤ bs.length) : (s.num bs k).2.pos ≤ bs.length := by
  unfold RS.num
  split
  · split <;> simp <;> omega
  · exact h
theorem RS.num_no (s : RS) (bs : List UInt8) (k : Nat) (h : (s.num bs k).2.why ≠ 0) : (s.num bs k).1 = 0 := by
  unfold RS.num at *
  split
  · split <;> simp_all
  · rfl
theorem RS.count_lt (s : RS) (bs : List UInt8) (m : Int) : (s.count bs m).1 < 4294967296 := by
  unfold RS.count; split
  · simp
  · exact s.num_lt4 bs
theorem RS.count_pos (s : RS) (bs : List UInt8) (m : Int) (h : s.pos ≤ bs.length) : (s.count bs m).2.pos ≤ bs.length := by
  unfold RS.count; split
  · exact h
  · exact s.num_pos bs 4 h
theorem RS.count_no (s : RS) (bs : List UInt8) (m : Int) (h : (s.count bs m).2.why ≠ 0) : (s.count bs m).1 = 0 := by
  unfold RS.count at *; split
  · rfl
  · rename_i hn; rw [if_neg hn] at h; exact s.num_no bs 4 h
theorem RS.text_pos (s : RS) (bs : List UInt8) (m : Int) (h : s.pos ≤ bs.length) : (s.text bs m).2.pos ≤ bs.length := by
  have hp := s.count_pos bs m h
  have hc := s.count_no bs m
  unfold RS.text
  split
  · simp
  · rename_i hl
    unfold RS.left leftOf at hl
    by_cases hw : (s.count bs m).2.why = 0
    · rw [if_pos hw] at hl; simp; omega
    · have := hc hw; simp; omega
end Go.Proofs.Ytmcaoimgmgjjiaa

namespace Go.Proofs.Ytmcaoimgmgjjiaa
open Go.RowKit

theorem be_from (l : List UInt8) : ∀ n : Nat, l.foldl (fun n b => n * 256 + b.toNat) n = n * 256 ^ l.length + be l := by
  induction l with
  | nil => intro n; simp [be]
  | cons b l ih =>
    intro n
    have e : be (b :: l) = b.toNat * 256 ^ l.length + be l := by
      show l.foldl _ (0 * 256 + b.toNat) = _
      rw [ih]; simp
    rw [List.foldl_cons, ih, e, List.length_cons, Nat.pow_succ, Nat.add_mul, Nat.mul_assoc, Nat.mul_comm 256, Nat.add_assoc]
theorem be_cons (b : UInt8) (l : List UInt8) : be (b :: l) = b.toNat * 256 ^ l.length + be l := by
  show l.foldl _ (0 * 256 + b.toNat) = _
  rw [be_from]; simp
theorem be_enc (n : Int) (k : Nat) : be (enc n k) = n.toNat % 256 ^ k := by
  induction k with
  | zero => simp [enc, be, Nat.mod_one]
  | succ k ih =>
    rw [enc, be_cons, enc_length, ih, byteAt_toNat]
    have h1 : n.toNat % 256 ^ (k + 1) = n.toNat % 256 ^ k + 256 ^ k * (n.toNat / 256 ^ k % 256) := by
      rw [Nat.pow_succ, Nat.mod_mul]
    rw [h1, Nat.mul_comm]; omega
theorem num_back (pre post : List UInt8) (n : Int) (k : Nat) : (⟨pre.length, 0⟩ : RS).num (pre ++ enc n k ++ post) k = (n.toNat % 256 ^ k, ⟨pre.length + k, 0⟩) := by
  have hl : pre.length + k ≤ (pre ++ enc n k ++ post).length := by simp [enc_length]
  unfold RS.num
  rw [if_pos rfl, if_pos hl]
  have e : ((pre ++ enc n k ++ post).drop pre.length).take k = enc n k := by
    rw [List.append_assoc, List.drop_left]
    have := List.take_left (l₁ := enc n k) (l₂ := post)
    rw [enc_length] at this
    exact this
  simp only [e, be_enc]
theorem count_back (pre post : List UInt8) (n : Nat) (most : Int) (hn : n < 4294967296) (hm : (n : Int) ≤ most) : (⟨pre.length, 0⟩ : RS).count (pre ++ enc n 4 ++ post) most = (n, ⟨pre.length + 4, 0⟩) := by
  have e : (⟨pre.length, 0⟩ : RS).num (pre ++ enc n 4 ++ post) 4 = (n, ⟨pre.length + 4, 0⟩) := by
    rw [num_back]
    simp only [Int.toNat_natCast]
    rw [Nat.mod_eq_of_lt (by omega)]
  unfold RS.count
  rw [e, if_neg (by simp; omega)]
theorem text_back (pre post t : List UInt8) (most : Int) (hn : t.length < 4294967296) (hm : (t.length : Int) ≤ most) :
    (⟨pre.length, 0⟩ : RS).text (pre ++ enc (t.length : Nat) 4 ++ t ++ post) most = (t, ⟨pre.length + 4 + t.length, 0⟩) := by
  have e := count_back pre (t ++ post) t.length most hn hm
  rw [← List.append_assoc] at e
  unfold RS.text
  rw [e]
  have hl : ¬ ((⟨pre.length + 4, 0⟩ : RS).left (pre ++ enc (t.length : Nat) 4 ++ t ++ post) < (t.length : Int)) := by
    simp [RS.left, leftOf, enc_length]; omega
  rw [if_neg hl]
  have e2 : ((pre ++ enc (t.length : Nat) 4 ++ t ++ post).drop (pre.length + 4)).take t.length = t := by
    have : (pre ++ enc (t.length : Nat) 4).length = pre.length + 4 := by simp [enc_length]
    rw [← this, List.append_assoc (pre ++ enc (t.length : Nat) 4), List.drop_left, List.take_left]
  simp only [e2]

end Go.Proofs.Ytmcaoimgmgjjiaa

namespace Go.Proofs.Ytmcaoimgmgjjiaa

/-! ### SHA-256 -/
def rotr (x n : Nat) : Nat := (x / 2 ^ n) ||| (x * 2 ^ (32 - n) % 4294967296)
def ssig0 (x : Nat) : Nat := rotr x 7 ^^^ rotr x 18 ^^^ (x / 8)
def ssig1 (x : Nat) : Nat := rotr x 17 ^^^ rotr x 19 ^^^ (x / 1024)
def bsig0 (x : Nat) : Nat := rotr x 2 ^^^ rotr x 13 ^^^ rotr x 22
def bsig1 (x : Nat) : Nat := rotr x 6 ^^^ rotr x 11 ^^^ rotr x 25
def ch (e f g : Nat) : Nat := (e &&& f) ^^^ ((4294967295 - e) &&& g)
def maj (a b c : Nat) : Nat := (a &&& b) ^^^ (a &&& c) ^^^ (b &&& c)

theorem or_lt32 {a b : Nat} (ha : a < 4294967296) (hb : b < 4294967296) : a ||| b < 4294967296 := Nat.or_lt_two_pow (n := 32) ha hb
theorem xor_lt32 {a b : Nat} (ha : a < 4294967296) (hb : b < 4294967296) : a ^^^ b < 4294967296 := Nat.xor_lt_two_pow (n := 32) ha hb
theorem and_lt32 {a b : Nat} (hb : b < 4294967296) : a &&& b < 4294967296 := Nat.and_lt_two_pow (n := 32) a hb
theorem div_lt32 {a : Nat} (b : Nat) (ha : a < 4294967296) : a / b < 4294967296 := Nat.lt_of_le_of_lt (Nat.div_le_self a b) ha
theorem rotr_lt (x n : Nat) (h : x < 4294967296) : rotr x n < 4294967296 := or_lt32 (div_lt32 _ h) (Nat.mod_lt _ (by decide))
theorem ssig0_lt (x : Nat) (h : x < 4294967296) : ssig0 x < 4294967296 := xor_lt32 (xor_lt32 (rotr_lt _ _ h) (rotr_lt _ _ h)) (div_lt32 _ h)
theorem ssig1_lt (x : Nat) (h : x < 4294967296) : ssig1 x < 4294967296 := xor_lt32 (xor_lt32 (rotr_lt _ _ h) (rotr_lt _ _ h)) (div_lt32 _ h)
theorem bsig0_lt (x : Nat) (h : x < 4294967296) : bsig0 x < 4294967296 := xor_lt32 (xor_lt32 (rotr_lt _ _ h) (rotr_lt _ _ h)) (rotr_lt _ _ h)
theorem bsig1_lt (x : Nat) (h : x < 4294967296) : bsig1 x < 4294967296 := xor_lt32 (xor_lt32 (rotr_lt _ _ h) (rotr_lt _ _ h)) (rotr_lt _ _ h)
theorem ch_lt (e f g : Nat) (hf : f < 4294967296) (hg : g < 4294967296) : ch e f g < 4294967296 := xor_lt32 (and_lt32 hf) (and_lt32 hg)
theorem maj_lt (a b c : Nat) (hb : b < 4294967296) (hc : c < 4294967296) : maj a b c < 4294967296 := xor_lt32 (xor_lt32 (and_lt32 hb) (and_lt32 hc)) (and_lt32 hc)

def nextWord (ws : List Nat) : Nat := (ws.getD (ws.length - 16) 0 + ssig0 (ws.getD (ws.length - 15) 0) + ws.getD (ws.length - 7) 0 + ssig1 (ws.getD (ws.length - 2) 0)) % 4294967296
def sched : Nat → List Nat → List Nat
  | 0, ws => ws
  | k + 1, ws => sched k ws ++ [nextWord (sched k ws)]
theorem sched_length (k : Nat) (ws : List Nat) : (sched k ws).length = ws.length + k := by
  induction k with
  | zero => rfl
  | succ k ih => simp [sched, ih]; omega

structure H8 where
  a : Nat
  b : Nat
  c : Nat
  d : Nat
  e : Nat
  f : Nat
  g : Nat
  h : Nat
def H8.ok (v : H8) : Prop := v.a < 4294967296 ∧ v.b < 4294967296 ∧ v.c < 4294967296 ∧ v.d < 4294967296 ∧ v.e < 4294967296 ∧ v.f < 4294967296 ∧ v.g < 4294967296 ∧ v.h < 4294967296
def H8.words (v : H8) : List Nat := [v.a, v.b, v.c, v.d, v.e, v.f, v.g, v.h]
def H8.t (v : H8) (k w : Nat) : Nat := (v.h + bsig1 v.e + ch v.e v.f v.g + k + w) % 4294967296
def H8.round (v : H8) (k w : Nat) : H8 := ⟨(v.t k w + bsig0 v.a + maj v.a v.b v.c) % 4294967296, v.a, v.b, v.c, (v.d + v.t k w) % 4294967296, v.e, v.f, v.g⟩
theorem H8.round_ok (v : H8) (k w : Nat) (h : v.ok) : (v.round k w).ok :=
  ⟨Nat.mod_lt _ (by decide), h.1, h.2.1, h.2.2.1, Nat.mod_lt _ (by decide), h.2.2.2.2.1, h.2.2.2.2.2.1, h.2.2.2.2.2.2.1⟩
def kOf : List Nat := [0x428a2f98, 0x71374491, 0xb5c0fbcf, 0xe9b5dba5, 0x3956c25b, 0x59f111f1, 0x923f82a4, 0xab1c5ed5, 0xd807aa98, 0x12835b01, 0x243185be, 0x550c7dc3, 0x72be5d74, 0x80deb1fe, 0x9bdc06a7, 0xc19bf174, 0xe49b69c1, 0xefbe4786, 0x0fc19dc6, 0x240ca1cc, 0x2de92c6f, 0x4a7484aa, 0x5cb0a9dc, 0x76f988da, 0x983e5152, 0xa831c66d, 0xb00327c8, 0xbf597fc7, 0xc6e00bf3, 0xd5a79147, 0x06ca6351, 0x14292967, 0x27b70a85, 0x2e1b2138, 0x4d2c6dfc, 0x53380d13, 0x650a7354, 0x766a0abb, 0x81c2c92e, 0x92722c85, 0xa2bfe8a1, 0xa81a664b, 0xc24b8b70, 0xc76c51a3, 0xd192e819, 0xd6990624, 0xf40e3585, 0x106aa070, 0x19a4c116, 0x1e376c08, 0x2748774c, 0x34b0bcb5, 0x391c0cb3, 0x4ed8aa4a, 0x5b9cca4f, 0x682e6ff3, 0x748f82ee, 0x78a5636f, 0x84c87814, 0x8cc70208, 0x90befffa, 0xa4506ceb, 0xbef9a3f7, 0xc67178f2]
def H8.rounds (v : H8) (ws : List Nat) : Nat → H8
  | 0 => v
  | i + 1 => (v.rounds ws i).round (kOf.getD i 0) (ws.getD i 0)
def H8.add (v u : H8) : H8 := ⟨(v.a + u.a) % 4294967296, (v.b + u.b) % 4294967296, (v.c + u.c) % 4294967296, (v.d + u.d) % 4294967296, (v.e + u.e) % 4294967296, (v.f + u.f) % 4294967296, (v.g + u.g) % 4294967296, (v.h + u.h) % 4294967296⟩
theorem H8.add_ok (v u : H8) : (v.add u).ok := ⟨Nat.mod_lt _ (by decide), Nat.mod_lt _ (by decide), Nat.mod_lt _ (by decide), Nat.mod_lt _ (by decide), Nat.mod_lt _ (by decide), Nat.mod_lt _ (by decide), Nat.mod_lt _ (by decide), Nat.mod_lt _ (by decide)⟩
theorem H8.rounds_ok (v : H8) (ws : List Nat) (i : Nat) (h : v.ok) : (v.rounds ws i).ok := by
  induction i with
  | zero => exact h
  | succ i ih => exact (v.rounds ws i).round_ok _ _ ih

def wordAt (m : List UInt8) (at_ : Nat) : Nat := (m.getD at_ 0).toNat * 16777216 + (m.getD (at_ + 1) 0).toNat * 65536 + (m.getD (at_ + 2) 0).toNat * 256 + (m.getD (at_ + 3) 0).toNat
def wordsAt (m : List UInt8) (at_ : Nat) (k : Nat) : List Nat := (List.range k).map fun i => wordAt m (at_ + 4 * i)
def H8.block (v : H8) (m : List UInt8) (at_ : Nat) : H8 := v.add (v.rounds (sched 48 (wordsAt m at_ 16)) 64)
def H8.blocks (v : H8) (m : List UInt8) : Nat → H8
  | 0 => v
  | k + 1 => (v.blocks m k).block m (64 * k)
def h0 : H8 := ⟨0x6a09e667, 0xbb67ae85, 0x3c6ef372, 0xa54ff53a, 0x510e527f, 0x9b05688c, 0x1f83d9ab, 0x5be0cd19⟩
def bytesOf (n : Nat) : Nat → List UInt8
  | 0 => []
  | k + 1 => UInt8.ofNat (n / 256 ^ k) :: bytesOf n k
theorem bytesOf_length (n k : Nat) : (bytesOf n k).length = k := by
  induction k with
  | zero => rfl
  | succ k ih => simp [bytesOf, ih]
def padZeros (len : Nat) : Nat := (119 - len % 64) % 64
def padded (b : List UInt8) : List UInt8 := b ++ [128] ++ List.replicate (padZeros b.length) 0 ++ bytesOf (8 * b.length) 8
theorem padded_length (b : List UInt8) : (padded b).length = 64 * ((b.length + 72) / 64) := by
  simp only [padded, padZeros, List.length_append, List.length_cons, List.length_nil, List.length_replicate, bytesOf_length]
  omega
def shaOf (b : List UInt8) : List UInt8 := (h0.blocks (padded b) ((b.length + 72) / 64)).words.flatMap fun w => bytesOf w 4
theorem H8.blocks_ok (v : H8) (m : List UInt8) (k : Nat) (h : v.ok) : (v.blocks m k).ok := by
  cases k with
  | zero => exact h
  | succ k => exact H8.add_ok _ _

end Go.Proofs.Ytmcaoimgmgjjiaa

namespace Go.Proofs.Ytmcaoimgmgjjiaa

theorem sha_len (bs : List UInt8) : (shaOf bs).length = 32 := by
  have h : ∀ l : List Nat, (l.flatMap fun w => bytesOf w 4).length = 4 * l.length := by
    intro l
    induction l with
    | nil => rfl
    | cons x l ih =>
      simp only [List.flatMap_cons, List.length_append, bytesOf_length, List.length_cons]
      omega
  unfold shaOf
  rw [h]
  rfl

structure Li where
  t : List UInt8
  h : List UInt8
  len : h.length = 32
theorem Li.ext' {x y : Li} (ht : x.t = y.t) (hh : x.h = y.h) : x = y := by
  obtain ⟨a, b, c⟩ := x
  obtain ⟨a', b', c'⟩ := y
  simp only at ht hh
  subst ht hh
  rfl

def nxt (h t : List UInt8) : List UInt8 := shaOf (h ++ t)
theorem nxt_len (h t : List UInt8) : (nxt h t).length = 32 := sha_len _
def zero32 : List UInt8 := List.replicate 32 0
theorem zero32_len : zero32.length = 32 := rfl
def hAt (h : List UInt8) (ts : List (List UInt8)) (k : Nat) : List UInt8 := (ts.take k).foldl nxt h
theorem fold_len : ∀ (ts : List (List UInt8)) (h : List UInt8), h.length = 32 → (ts.foldl nxt h).length = 32
  | [], _, hl => hl
  | t :: ts, h, _ => fold_len ts (nxt h t) (nxt_len h t)
theorem hAt_len {h : List UInt8} (hl : h.length = 32) (ts : List (List UInt8)) (k : Nat) : (hAt h ts k).length = 32 := fold_len _ _ hl
theorem hAt_succ (h : List UInt8) (ts : List (List UInt8)) (k : Nat) (hk : k < ts.length) : hAt h ts (k + 1) = nxt (hAt h ts k) ts[k] := by
  unfold hAt
  rw [List.take_succ_eq_append_getElem hk, List.foldl_append]
  rfl
theorem hAt_take (h : List UInt8) (ts : List (List UInt8)) (k m : Nat) (hk : k ≤ m) : hAt h (ts.take m) k = hAt h ts k := by
  unfold hAt
  rw [List.take_take, Nat.min_eq_left hk]
def mkF (h : List UInt8) : List (List UInt8) → List Li
  | [] => []
  | t :: ts => ⟨t, nxt h t, nxt_len h t⟩ :: mkF (nxt h t) ts
def mkC (ts : List (List UInt8)) : List Li := mkF zero32 ts
theorem mkF_length : ∀ (ts : List (List UInt8)) (h : List UInt8), (mkF h ts).length = ts.length
  | [], _ => rfl
  | t :: ts, h => by rw [mkF, List.length_cons, List.length_cons, mkF_length ts]
theorem mkC_length (ts : List (List UInt8)) : (mkC ts).length = ts.length := mkF_length ts _
theorem mkF_append : ∀ (ts us : List (List UInt8)) (h : List UInt8), mkF h (ts ++ us) = mkF h ts ++ mkF (ts.foldl nxt h) us
  | [], _, _ => rfl
  | t :: ts, us, h => by
    rw [List.cons_append, mkF, mkF_append ts us, mkF]
    rfl
theorem mkC_snoc (ts : List (List UInt8)) (t : List UInt8) : mkC (ts ++ [t]) = mkC ts ++ [⟨t, nxt (hAt zero32 ts ts.length) t, nxt_len _ _⟩] := by
  unfold mkC
  rw [mkF_append]
  unfold hAt
  rw [List.take_length]
  rfl
theorem mkC_take_succ (ts : List (List UInt8)) (k : Nat) (hk : k < ts.length) : mkC (ts.take (k + 1)) = mkC (ts.take k) ++ [⟨ts[k], nxt (hAt zero32 ts k) ts[k], nxt_len _ _⟩] := by
  rw [List.take_succ_eq_append_getElem hk, mkC_snoc]
  congr 2
  apply Li.ext'
  · rfl
  · simp only [List.length_take, Nat.min_eq_left (Nat.le_of_lt hk)]
    rw [hAt_take _ _ _ _ (Nat.le_refl _)]
theorem mkF_get : ∀ (ts : List (List UInt8)) (h : List UInt8) (k : Nat) (hk : k < ts.length) (hk' : k < (mkF h ts).length), (mkF h ts)[k].t = ts[k] ∧ (mkF h ts)[k].h = hAt h ts (k + 1)
  | t :: ts, h, 0, _, _ => ⟨rfl, rfl⟩
  | t :: ts, h, k + 1, hk, hk' => by
    have := mkF_get ts (nxt h t) k (by simpa using hk) (by simpa [mkF] using hk')
    exact this
theorem mkC_get (ts : List (List UInt8)) (k : Nat) (hk : k < ts.length) : (mkC ts)[k]'(by rw [mkC_length]; exact hk) = ⟨ts[k], hAt zero32 ts (k + 1), hAt_len zero32_len _ _⟩ := by
  obtain ⟨h1, h2⟩ := mkF_get ts zero32 k hk (by rw [mkF_length]; exact hk)
  exact Li.ext' h1 h2
def txs (xs : List Li) : List (List UInt8) := xs.map (·.t)
theorem txs_length (xs : List Li) : (txs xs).length = xs.length := by simp [txs]
theorem txs_get (xs : List Li) (k : Nat) (hk : k < xs.length) : (txs xs)[k]'(by rw [txs_length]; exact hk) = xs[k].t := by simp [txs]
theorem txs_mkF : ∀ (ts : List (List UInt8)) (h : List UInt8), txs (mkF h ts) = ts
  | [], _ => rfl
  | t :: ts, h => by
    show t :: txs (mkF (nxt h t) ts) = _
    rw [txs_mkF ts]
theorem txs_mkC (ts : List (List UInt8)) : txs (mkC ts) = ts := txs_mkF ts _

def okL (xs : List Li) (k : Nat) (_hk : k < xs.length) : Prop := xs[k].h = hAt zero32 (txs xs) (k + 1)
structure IsChk (xs : List Li) (n : Nat) : Prop where
  le : n ≤ xs.length
  ok : ∀ k (_ : k < n) (h : k < xs.length), okL xs k h
  no : ∀ h : n < xs.length, ¬ okL xs n h
theorem IsChk.one {xs : List Li} {n m : Nat} (h : IsChk xs n) (k : IsChk xs m) : n = m := by
  rcases Nat.lt_trichotomy n m with hl | e | hl
  · have := k.le
    exact absurd (k.ok n hl (by omega)) (h.no (by omega))
  · exact e
  · have := h.le
    exact absurd (h.ok m hl (by omega)) (k.no (by omega))
theorem IsChk.mk' (ts : List (List UInt8)) : IsChk (mkC ts) ts.length := by
  refine ⟨by rw [mkC_length]; exact Nat.le_refl _, fun k hk h => ?_, fun h => absurd h (by rw [mkC_length]; omega)⟩
  unfold okL
  rw [txs_mkC]
  exact congrArg Li.h (mkC_get ts k hk)

def encI (x : Li) : List UInt8 := enc (x.t.length : Nat) 4 ++ x.t ++ x.h
def encB (xs : List Li) : List UInt8 := xs.flatMap encI
def encL (xs : List Li) : List UInt8 := enc (xs.length : Nat) 4 ++ encB xs
theorem encI_len (x : Li) : (encI x).length = x.t.length + 36 := by
  unfold encI
  simp only [List.length_append, enc_length, x.len]
  omega
theorem encB_snoc (xs : List Li) (x : Li) : encB (xs ++ [x]) = encB xs ++ encI x := by simp [encB]
theorem encB_take_succ (xs : List Li) (k : Nat) (hk : k < xs.length) : encB (xs.take (k + 1)) = encB (xs.take k) ++ encI xs[k] := by
  rw [List.take_succ_eq_append_getElem hk, encB_snoc]
def wgt (xs : List Li) : Nat := (xs.map fun x => x.t.length + 36).sum
theorem encB_len : ∀ xs : List Li, (encB xs).length = wgt xs
  | [] => rfl
  | x :: xs => by
    show (encI x ++ encB xs).length = _
    rw [List.length_append, encI_len, encB_len xs]
    rfl
theorem encL_len (xs : List Li) : (encL xs).length = wgt xs + 4 := by
  unfold encL
  rw [List.length_append, enc_length, encB_len]
  omega
theorem wgt_take_le : ∀ (xs : List Li) (k : Nat), wgt (xs.take k) ≤ wgt xs
  | [], k => by simp [wgt]
  | x :: xs, 0 => by simp [wgt]
  | x :: xs, k + 1 => by
    have := wgt_take_le xs k
    simp only [wgt, List.take_succ_cons, List.map_cons, List.sum_cons] at this ⊢
    omega
theorem wgt_few {M : Nat} : ∀ xs : List Li, (∀ x ∈ xs, x.t.length ≤ M) → wgt xs ≤ xs.length * (M + 36)
  | [], _ => by simp [wgt]
  | x :: xs, h => by
    have := wgt_few xs (fun y hy => h y (by simp [hy]))
    have hx := h x (by simp)
    simp only [wgt, List.map_cons, List.sum_cons, List.length_cons] at this ⊢
    rw [Nat.add_mul, Nat.one_mul]
    omega

def RS.raw (s : RS) (bs : List UInt8) (n : Nat) : List UInt8 × RS :=
  if s.why = 0 then (if s.pos + n ≤ bs.length then ((bs.drop s.pos).take n, ⟨s.pos + n, 0⟩) else ([], ⟨bs.length, 10⟩)) else ([], s)
theorem RS.raw_pos (s : RS) (bs : List UInt8) (n : Nat) (h : s.pos ≤ bs.length) : (s.raw bs n).2.pos ≤ bs.length := by
  unfold RS.raw
  split
  · split <;> simp <;> omega
  · exact h
def pad32 (l : List UInt8) : List UInt8 := (l ++ zero32).take 32
theorem pad32_len (l : List UInt8) : (pad32 l).length = 32 := by
  unfold pad32
  rw [List.length_take, List.length_append, zero32_len]
  omega
theorem pad32_self {l : List UInt8} (h : l.length = 32) : pad32 l = l := by
  unfold pad32
  rw [← h, List.take_left]
def rdOne (bs : List UInt8) (s : RS) : Li × RS := (⟨(s.text bs 4000).1, pad32 ((s.text bs 4000).2.raw bs 32).1, pad32_len _⟩, ((s.text bs 4000).2.raw bs 32).2)
def rdN (bs : List UInt8) : Nat → RS → List Li → List Li × RS
  | 0, s, xs => (xs, s)
  | n + 1, s, xs => if s.why ≠ 0 then (xs, s) else rdN bs n (rdOne bs s).2 (xs ++ [(rdOne bs s).1])
theorem rdN_no (bs : List UInt8) (n : Nat) (s : RS) (xs : List Li) (h : s.why ≠ 0) : rdN bs n s xs = (xs, s) := by
  cases n with
  | zero => rfl
  | succ n => rw [rdN, if_pos h]
def rdAll (bs : List UInt8) : List Li × RS := rdN bs ((⟨0, 0⟩ : RS).count bs 4096).1 ((⟨0, 0⟩ : RS).count bs 4096).2 []
structure IsDec (bs : List UInt8) (xs : List Li) (why at_ : Int) : Prop where
  no : ((rdAll bs).2.end_ bs).1 ≠ 0 → xs = [] ∧ why = ((rdAll bs).2.end_ bs).1 ∧ at_ = ((rdAll bs).2.end_ bs).2
  yes : ((rdAll bs).2.end_ bs).1 = 0 → ∃ n, IsChk (rdAll bs).1 n ∧ ((n < (rdAll bs).1.length → xs = [] ∧ why = 12 ∧ at_ = ((encL ((rdAll bs).1.take n)).length : Nat)) ∧ (n = (rdAll bs).1.length → xs = (rdAll bs).1 ∧ why = 0 ∧ at_ = 0))
theorem IsDec.one {bs : List UInt8} {xs ys : List Li} {y z a b : Int} (h : IsDec bs xs y a) (k : IsDec bs ys z b) : xs = ys ∧ y = z ∧ a = b := by
  by_cases e : ((rdAll bs).2.end_ bs).1 = 0
  · obtain ⟨n, i1, h1, h2⟩ := h.yes e
    obtain ⟨m, i2, k1, k2⟩ := k.yes e
    obtain rfl := i1.one i2
    rcases Nat.lt_or_ge n (rdAll bs).1.length with hl | hl
    · obtain ⟨rfl, rfl, rfl⟩ := h1 hl
      obtain ⟨rfl, rfl, rfl⟩ := k1 hl
      exact ⟨rfl, rfl, rfl⟩
    · have e2 : n = (rdAll bs).1.length := Nat.le_antisymm i1.le hl
      obtain ⟨rfl, rfl, rfl⟩ := h2 e2
      obtain ⟨rfl, rfl, rfl⟩ := k2 e2
      exact ⟨rfl, rfl, rfl⟩
  · obtain ⟨rfl, rfl, rfl⟩ := h.no e
    obtain ⟨rfl, rfl, rfl⟩ := k.no e
    exact ⟨rfl, rfl, rfl⟩

end Go.Proofs.Ytmcaoimgmgjjiaa
