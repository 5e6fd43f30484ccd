/-
  Plain facts on the sums of chapter 2: CRC-32, SHA-256, hexadecimal digits: no Go in sight.
-/
import Derived.KernelRfl
import Derived.WalkKit
namespace Go.Proofs.Ytflleblcliobdaa

/-! ### CRC-32, bit by bit -/
def crcStep (c : Nat) : Nat := if c % 2 = 1 then (c / 2) ^^^ 3988292384 else c / 2
def crcSteps : Nat → Nat → Nat
  | 0, c => c
  | k + 1, c => crcSteps k (crcStep c)
def crcByte (c : Nat) (b : UInt8) : Nat := crcSteps 8 (c ^^^ b.toNat)
def crcFrom (c : Nat) (bs : List UInt8) : Nat := bs.foldl crcByte c
def crcOf (bs : List UInt8) : Nat := crcFrom 4294967295 bs ^^^ 4294967295

theorem crcStep_lt (c : Nat) (h : c < 4294967296) : crcStep c < 4294967296 := by
  unfold crcStep
  split
  · exact Nat.xor_lt_two_pow (n := 32) (by omega) (by decide)
  · omega
theorem crcSteps_lt (k c : Nat) (h : c < 4294967296) : crcSteps k c < 4294967296 := by
  induction k generalizing c with
  | zero => exact h
  | succ k ih => exact ih _ (crcStep_lt c h)
theorem crcByte_lt (c : Nat) (b : UInt8) (h : c < 4294967296) : crcByte c b < 4294967296 := by
  refine crcSteps_lt 8 _ (Nat.xor_lt_two_pow (n := 32) h ?_)
  have := b.toNat_lt
  omega
theorem crcFrom_lt (c : Nat) (bs : List UInt8) (h : c < 4294967296) : crcFrom c bs < 4294967296 := by
  induction bs generalizing c with
  | nil => exact h
  | cons b bs ih => exact ih _ (crcByte_lt c b h)
theorem crcOf_lt (bs : List UInt8) : crcOf bs < 4294967296 := Nat.xor_lt_two_pow (n := 32) (crcFrom_lt _ _ (by decide)) (by decide)

theorem top_of (x : Nat) (h : x < 2147483648) : (x ^^^ 3988292384).testBit 31 = true := by
  rw [Nat.testBit_xor, Nat.testBit_lt_two_pow (i := 31) (by omega)]
  decide
theorem xor_inj {a b c : Nat} (h : a ^^^ c = b ^^^ c) : a = b := by
  have := congrArg (· ^^^ c) h
  simpa [Nat.xor_assoc] using this
theorem crcStep_inj (a b : Nat) (ha : a < 4294967296) (hb : b < 4294967296) (h : crcStep a = crcStep b) : a = b := by
  unfold crcStep at h
  have ta := top_of (a / 2) (by omega)
  have tb := top_of (b / 2) (by omega)
  have na : (a / 2).testBit 31 = false := Nat.testBit_lt_two_pow (i := 31) (by omega)
  have nb : (b / 2).testBit 31 = false := Nat.testBit_lt_two_pow (i := 31) (by omega)
  by_cases h1 : a % 2 = 1 <;> by_cases h2 : b % 2 = 1
  · rw [if_pos h1, if_pos h2] at h
    have := xor_inj h
    omega
  · rw [if_pos h1, if_neg h2] at h
    rw [h, nb] at ta; cases ta
  · rw [if_neg h1, if_pos h2] at h
    rw [← h, na] at tb; cases tb
  · rw [if_neg h1, if_neg h2] at h
    omega
theorem crcSteps_inj (k a b : Nat) (ha : a < 4294967296) (hb : b < 4294967296) (h : crcSteps k a = crcSteps k b) : a = b := by
  induction k generalizing a b with
  | zero => exact h
  | succ k ih => exact crcStep_inj a b ha hb (ih _ _ (crcStep_lt a ha) (crcStep_lt b hb) h)
theorem byte_lt32 (b : UInt8) : b.toNat < 2 ^ 32 := by have := b.toNat_lt; omega
/-- One byte, from two unlike sums: unlike sums. -/
theorem crcByte_inj (a b : Nat) (x : UInt8) (ha : a < 4294967296) (hb : b < 4294967296) (h : crcByte a x = crcByte b x) : a = b :=
  xor_inj (crcSteps_inj 8 _ _ (Nat.xor_lt_two_pow (n := 32) ha (byte_lt32 x)) (Nat.xor_lt_two_pow (n := 32) hb (byte_lt32 x)) h)
/-- Two unlike bytes, from one sum: unlike sums. -/
theorem crcByte_turn (a : Nat) (x y : UInt8) (ha : a < 4294967296) (h : crcByte a x = crcByte a y) : x = y := by
  have := crcSteps_inj 8 _ _ (Nat.xor_lt_two_pow (n := 32) ha (byte_lt32 x)) (Nat.xor_lt_two_pow (n := 32) ha (byte_lt32 y)) h
  rw [Nat.xor_comm a, Nat.xor_comm a] at this
  exact UInt8.toNat.inj (xor_inj this)
theorem crcFrom_inj (bs : List UInt8) (a b : Nat) (ha : a < 4294967296) (hb : b < 4294967296) (h : crcFrom a bs = crcFrom b bs) : a = b := by
  induction bs generalizing a b with
  | nil => exact h
  | cons x bs ih => exact crcByte_inj a b x ha hb (ih _ _ (crcByte_lt a x ha) (crcByte_lt b x hb) h)
/-- One byte that is turned turns the sum. -/
theorem crcOf_set (bs : List UInt8) (k : Nat) (y : UInt8) (hk : k < bs.length) (hy : bs[k] ≠ y) : crcOf bs ≠ crcOf (bs.set k y) := by
  intro h
  have h1 := xor_inj h
  have e1 : bs = bs.take k ++ bs[k] :: bs.drop (k + 1) := by rw [List.getElem_cons_drop, List.take_append_drop]
  have e2 : bs.set k y = bs.take k ++ y :: bs.drop (k + 1) := List.set_eq_take_append_cons_drop.trans (if_pos hk)
  rw [e2] at h1
  have cut : ∀ (l r : List UInt8) (x : UInt8), crcFrom 4294967295 (l ++ x :: r) = crcFrom (crcByte (crcFrom 4294967295 l) x) r := fun l r x => by
    unfold crcFrom; rw [List.foldl_append, List.foldl_cons]
  have h2 : crcFrom (crcByte (crcFrom 4294967295 (bs.take k)) bs[k]) (bs.drop (k + 1)) = crcFrom (crcByte (crcFrom 4294967295 (bs.take k)) y) (bs.drop (k + 1)) := by
    rw [← cut, ← cut, ← e1]; exact h1
  have hl := crcFrom_lt 4294967295 (bs.take k) (by decide)
  exact hy (crcByte_turn _ _ _ hl (crcFrom_inj _ _ _ (crcByte_lt _ _ hl) (crcByte_lt _ _ hl) h2))

theorem crc_run : crcOf [49, 50, 51, 52, 53, 54, 55, 56, 57] = 3421780262 := by kernel_rfl
theorem crc_none : crcOf [] = 0 := by kernel_rfl

end Go.Proofs.Ytflleblcliobdaa

namespace Go.Proofs.Ytflleblcliobdaa

/-! ### Hexadecimal digits -/
def hexDigit (n : Nat) : UInt8 := UInt8.ofNat (if n < 10 then 48 + n else 87 + n)
def hexByte (b : UInt8) : List UInt8 := [hexDigit (b.toNat / 16), hexDigit (b.toNat % 16)]
def hexOf (bs : List UInt8) : List UInt8 := bs.flatMap hexByte
theorem hexOf_length (bs : List UInt8) : (hexOf bs).length = 2 * bs.length := by
  induction bs with
  | nil => rfl
  | cons b bs ih =>
    have : (hexByte b).length = 2 := rfl
    simp only [hexOf, List.flatMap_cons, List.length_append, List.length_cons, this] at *
    omega
theorem hexOf_append (a b : List UInt8) : hexOf (a ++ b) = hexOf a ++ hexOf b := by simp [hexOf]
theorem hexOf_snoc (a : List UInt8) (b : UInt8) : hexOf (a ++ [b]) = hexOf a ++ hexByte b := by simp [hexOf]
theorem hexDigit_toNat (n : Nat) (h : n < 16) : (hexDigit n).toNat = if n < 10 then 48 + n else 87 + n := by
  unfold hexDigit
  rw [UInt8.toNat_ofNat']
  split <;> omega
theorem hexDigit_inj (m n : Nat) (hm : m < 16) (hn : n < 16) (h : hexDigit m = hexDigit n) : m = n := by
  have := congrArg UInt8.toNat h
  rw [hexDigit_toNat m hm, hexDigit_toNat n hn] at this
  split at this <;> split at this <;> omega
theorem hexByte_inj (a b : UInt8) (h : hexByte a = hexByte b) : a = b := by
  unfold hexByte at h
  injection h with h1 h2
  injection h2 with h2
  have l := a.toNat_lt
  have r := b.toNat_lt
  have e1 := hexDigit_inj _ _ (by omega) (by omega) h1
  have e2 := hexDigit_inj _ _ (by omega) (by omega) h2
  apply UInt8.toNat.inj
  omega
theorem hexOf_inj (a b : List UInt8) (h : hexOf a = hexOf b) : a = b := by
  induction a generalizing b with
  | nil =>
    have := congrArg List.length h
    rw [hexOf_length, hexOf_length] at this
    exact (List.eq_nil_of_length_eq_zero (by simp at this; omega)).symm
  | cons x a ih =>
    cases b with
    | nil =>
      have := congrArg List.length h
      rw [hexOf_length, hexOf_length] at this
      simp at this
    | cons y b =>
      have h' : hexByte x ++ hexOf a = hexByte y ++ hexOf b := h
      have := List.append_inj h' rfl
      rw [hexByte_inj x y this.1, ih b this.2]

/-! ### SHA-256 -/
def rotr (x n : Nat) : Nat := (x / 2 ^ n) ||| (x * 2 ^ (32 - n) % 4294967296)
def ssig0 (x : Nat) : Nat := rotr x 7 ^^^ rotr x 18 ^^^ (x / 8)
def ssig1 (x : Nat) : Nat := rotr x 17 ^^^ rotr x 19 ^^^ (x / 1024)
def bsig0 (x : Nat) : Nat := rotr x 2 ^^^ rotr x 13 ^^^ rotr x 22
def bsig1 (x : Nat) : Nat := rotr x 6 ^^^ rotr x 11 ^^^ rotr x 25
def ch (e f g : Nat) : Nat := (e &&& f) ^^^ ((4294967295 - e) &&& g)
def maj (a b c : Nat) : Nat := (a &&& b) ^^^ (a &&& c) ^^^ (b &&& c)

theorem or_lt32 {a b : Nat} (ha : a < 4294967296) (hb : b < 4294967296) : a ||| b < 4294967296 := Nat.or_lt_two_pow (n := 32) ha hb
theorem xor_lt32 {a b : Nat} (ha : a < 4294967296) (hb : b < 4294967296) : a ^^^ b < 4294967296 := Nat.xor_lt_two_pow (n := 32) ha hb
theorem and_lt32 {a b : Nat} (hb : b < 4294967296) : a &&& b < 4294967296 := Nat.and_lt_two_pow (n := 32) a hb
theorem div_lt32 {a : Nat} (b : Nat) (ha : a < 4294967296) : a / b < 4294967296 := Nat.lt_of_le_of_lt (Nat.div_le_self a b) ha
theorem rotr_lt (x n : Nat) (h : x < 4294967296) : rotr x n < 4294967296 := or_lt32 (div_lt32 _ h) (Nat.mod_lt _ (by decide))
theorem ssig0_lt (x : Nat) (h : x < 4294967296) : ssig0 x < 4294967296 := xor_lt32 (xor_lt32 (rotr_lt _ _ h) (rotr_lt _ _ h)) (div_lt32 _ h)
theorem ssig1_lt (x : Nat) (h : x < 4294967296) : ssig1 x < 4294967296 := xor_lt32 (xor_lt32 (rotr_lt _ _ h) (rotr_lt _ _ h)) (div_lt32 _ h)
theorem bsig0_lt (x : Nat) (h : x < 4294967296) : bsig0 x < 4294967296 := xor_lt32 (xor_lt32 (rotr_lt _ _ h) (rotr_lt _ _ h)) (rotr_lt _ _ h)
theorem bsig1_lt (x : Nat) (h : x < 4294967296) : bsig1 x < 4294967296 := xor_lt32 (xor_lt32 (rotr_lt _ _ h) (rotr_lt _ _ h)) (rotr_lt _ _ h)
theorem ch_lt (e f g : Nat) (hf : f < 4294967296) (hg : g < 4294967296) : ch e f g < 4294967296 := xor_lt32 (and_lt32 hf) (and_lt32 hg)
theorem maj_lt (a b c : Nat) (hb : b < 4294967296) (hc : c < 4294967296) : maj a b c < 4294967296 := xor_lt32 (xor_lt32 (and_lt32 hb) (and_lt32 hc)) (and_lt32 hc)

/-- The next word of the schedule. -/
def nextWord (ws : List Nat) : Nat := (ws.getD (ws.length - 16) 0 + ssig0 (ws.getD (ws.length - 15) 0) + ws.getD (ws.length - 7) 0 + ssig1 (ws.getD (ws.length - 2) 0)) % 4294967296
/-- k more words. -/
def sched : Nat → List Nat → List Nat
  | 0, ws => ws
  | k + 1, ws => sched k ws ++ [nextWord (sched k ws)]
theorem sched_length (k : Nat) (ws : List Nat) : (sched k ws).length = ws.length + k := by
  induction k with
  | zero => rfl
  | succ k ih => simp [sched, ih]; omega

/-- The eight words. -/
structure H8 where
  a : Nat
  b : Nat
  c : Nat
  d : Nat
  e : Nat
  f : Nat
  g : Nat
  h : Nat
def H8.ok (v : H8) : Prop := v.a < 4294967296 ∧ v.b < 4294967296 ∧ v.c < 4294967296 ∧ v.d < 4294967296 ∧ v.e < 4294967296 ∧ v.f < 4294967296 ∧ v.g < 4294967296 ∧ v.h < 4294967296
def H8.words (v : H8) : List Nat := [v.a, v.b, v.c, v.d, v.e, v.f, v.g, v.h]
def H8.t (v : H8) (k w : Nat) : Nat := (v.h + bsig1 v.e + ch v.e v.f v.g + k + w) % 4294967296
def H8.round (v : H8) (k w : Nat) : H8 := ⟨(v.t k w + bsig0 v.a + maj v.a v.b v.c) % 4294967296, v.a, v.b, v.c, (v.d + v.t k w) % 4294967296, v.e, v.f, v.g⟩
theorem H8.round_ok (v : H8) (k w : Nat) (h : v.ok) : (v.round k w).ok :=
  ⟨Nat.mod_lt _ (by decide), h.1, h.2.1, h.2.2.1, Nat.mod_lt _ (by decide), h.2.2.2.2.1, h.2.2.2.2.2.1, h.2.2.2.2.2.2.1⟩
def kOf : List Nat := [0x428a2f98, 0x71374491, 0xb5c0fbcf, 0xe9b5dba5, 0x3956c25b, 0x59f111f1, 0x923f82a4, 0xab1c5ed5, 0xd807aa98, 0x12835b01, 0x243185be, 0x550c7dc3, 0x72be5d74, 0x80deb1fe, 0x9bdc06a7, 0xc19bf174, 0xe49b69c1, 0xefbe4786, 0x0fc19dc6, 0x240ca1cc, 0x2de92c6f, 0x4a7484aa, 0x5cb0a9dc, 0x76f988da, 0x983e5152, 0xa831c66d, 0xb00327c8, 0xbf597fc7, 0xc6e00bf3, 0xd5a79147, 0x06ca6351, 0x14292967, 0x27b70a85, 0x2e1b2138, 0x4d2c6dfc, 0x53380d13, 0x650a7354, 0x766a0abb, 0x81c2c92e, 0x92722c85, 0xa2bfe8a1, 0xa81a664b, 0xc24b8b70, 0xc76c51a3, 0xd192e819, 0xd6990624, 0xf40e3585, 0x106aa070, 0x19a4c116, 0x1e376c08, 0x2748774c, 0x34b0bcb5, 0x391c0cb3, 0x4ed8aa4a, 0x5b9cca4f, 0x682e6ff3, 0x748f82ee, 0x78a5636f, 0x84c87814, 0x8cc70208, 0x90befffa, 0xa4506ceb, 0xbef9a3f7, 0xc67178f2]
/-- The first i rounds. -/
def H8.rounds (v : H8) (ws : List Nat) : Nat → H8
  | 0 => v
  | i + 1 => (v.rounds ws i).round (kOf.getD i 0) (ws.getD i 0)
def H8.add (v u : H8) : H8 := ⟨(v.a + u.a) % 4294967296, (v.b + u.b) % 4294967296, (v.c + u.c) % 4294967296, (v.d + u.d) % 4294967296, (v.e + u.e) % 4294967296, (v.f + u.f) % 4294967296, (v.g + u.g) % 4294967296, (v.h + u.h) % 4294967296⟩
theorem H8.add_ok (v u : H8) : (v.add u).ok := ⟨Nat.mod_lt _ (by decide), Nat.mod_lt _ (by decide), Nat.mod_lt _ (by decide), Nat.mod_lt _ (by decide), Nat.mod_lt _ (by decide), Nat.mod_lt _ (by decide), Nat.mod_lt _ (by decide), Nat.mod_lt _ (by decide)⟩
theorem H8.rounds_ok (v : H8) (ws : List Nat) (i : Nat) (h : v.ok) : (v.rounds ws i).ok := by
  induction i with
  | zero => exact h
  | succ i ih => exact (v.rounds ws i).round_ok _ _ ih

/-- The word of four bytes from at on. -/
def wordAt (m : List UInt8) (at_ : Nat) : Nat := (m.getD at_ 0).toNat * 16777216 + (m.getD (at_ + 1) 0).toNat * 65536 + (m.getD (at_ + 2) 0).toNat * 256 + (m.getD (at_ + 3) 0).toNat
def wordsAt (m : List UInt8) (at_ : Nat) (k : Nat) : List Nat := (List.range k).map fun i => wordAt m (at_ + 4 * i)
/-- One block. -/
def H8.block (v : H8) (m : List UInt8) (at_ : Nat) : H8 := v.add (v.rounds (sched 48 (wordsAt m at_ 16)) 64)
/-- The first k blocks. -/
def H8.blocks (v : H8) (m : List UInt8) : Nat → H8
  | 0 => v
  | k + 1 => (v.blocks m k).block m (64 * k)
def h0 : H8 := ⟨0x6a09e667, 0xbb67ae85, 0x3c6ef372, 0xa54ff53a, 0x510e527f, 0x9b05688c, 0x1f83d9ab, 0x5be0cd19⟩
/-- The bytes of the lowest k bytes of n, the highest first. -/
def bytesOf (n : Nat) : Nat → List UInt8
  | 0 => []
  | k + 1 => UInt8.ofNat (n / 256 ^ k) :: bytesOf n k
theorem bytesOf_length (n k : Nat) : (bytesOf n k).length = k := by
  induction k with
  | zero => rfl
  | succ k ih => simp [bytesOf, ih]
def padZeros (len : Nat) : Nat := (119 - len % 64) % 64
def padded (b : List UInt8) : List UInt8 := b ++ [128] ++ List.replicate (padZeros b.length) 0 ++ bytesOf (8 * b.length) 8
theorem padded_length (b : List UInt8) : (padded b).length = 64 * ((b.length + 72) / 64) := by
  simp only [padded, padZeros, List.length_append, List.length_cons, List.length_nil, List.length_replicate, bytesOf_length]
  omega
def shaOf (b : List UInt8) : List UInt8 := (h0.blocks (padded b) ((b.length + 72) / 64)).words.flatMap fun w => bytesOf w 4
theorem H8.blocks_ok (v : H8) (m : List UInt8) (k : Nat) (h : v.ok) : (v.blocks m k).ok := by
  cases k with
  | zero => exact h
  | succ k => exact H8.add_ok _ _

theorem sha_abc : hexOf (shaOf [97, 98, 99]) = [98, 97, 55, 56, 49, 54, 98, 102, 56, 102, 48, 49, 99, 102, 101, 97, 52, 49, 52, 49, 52, 48, 100, 101, 53, 100, 97, 101, 50, 50, 50, 51, 98, 48, 48, 51, 54, 49, 97, 51, 57, 54, 49, 55, 55, 97, 57, 99, 98, 52, 49, 48, 102, 102, 54, 49, 102, 50, 48, 48, 49, 53, 97, 100] := by kernel_rfl
theorem sha_none : hexOf (shaOf []) = [101, 51, 98, 48, 99, 52, 52, 50, 57, 56, 102, 99, 49, 99, 49, 52, 57, 97, 102, 98, 102, 52, 99, 56, 57, 57, 54, 102, 98, 57, 50, 52, 50, 55, 97, 101, 52, 49, 101, 52, 54, 52, 57, 98, 57, 51, 52, 99, 97, 52, 57, 53, 57, 57, 49, 98, 55, 56, 53, 50, 98, 56, 53, 53] := by kernel_rfl
theorem sha_zeros : hexOf (shaOf (List.replicate 64 0)) = [102, 53, 97, 53, 102, 100, 52, 50, 100, 49, 54, 97, 50, 48, 51, 48, 50, 55, 57, 56, 101, 102, 54, 101, 100, 51, 48, 57, 57, 55, 57, 98, 52, 51, 48, 48, 51, 100, 50, 51, 50, 48, 100, 57, 102, 48, 101, 56, 101, 97, 57, 56, 51, 49, 97, 57, 50, 55, 53, 57, 102, 98, 52, 98] := by kernel_rfl

end Go.Proofs.Ytflleblcliobdaa
