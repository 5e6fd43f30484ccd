/-
  Plain facts on the sums of chapter 2: SHA-256 by FIPS 180-4 and hexadecimal digits, as functions on numbers and lists: no Go in sight.
-/
import Derived.Test.YtciecjnmiacmeaaSumPlain
namespace Go.Proofs.Ytciecjnmiacmeaa

/-! ### Hexadecimal digits -/
def hexDigit (n : Nat) : UInt8 := UInt8.ofNat (if n < 10 then 48 + n else 87 + n)
def hexByte (b : UInt8) : List UInt8 := [hexDigit (b.toNat / 16), hexDigit (b.toNat % 16)]
def hexOf (bs : List UInt8) : List UInt8 := bs.flatMap hexByte
theorem hexOf_length (bs : List UInt8) : (hexOf bs).length = 2 * bs.length := by
  induction bs with
  | nil => rfl
  | cons b bs ih =>
    have : (hexByte b).length = 2 := rfl
    simp only [hexOf, List.flatMap_cons, List.length_append, List.length_cons, this] at *
    omega
theorem hexOf_append (a b : List UInt8) : hexOf (a ++ b) = hexOf a ++ hexOf b := by simp [hexOf]
theorem hexOf_snoc (a : List UInt8) (b : UInt8) : hexOf (a ++ [b]) = hexOf a ++ hexByte b := by simp [hexOf]
theorem hexDigit_toNat (n : Nat) (h : n < 16) : (hexDigit n).toNat = if n < 10 then 48 + n else 87 + n := by
  unfold hexDigit
  rw [UInt8.toNat_ofNat']
  split <;> omega
theorem hexDigit_inj (m n : Nat) (hm : m < 16) (hn : n < 16) (h : hexDigit m = hexDigit n) : m = n := by
  have := congrArg UInt8.toNat h
  rw [hexDigit_toNat m hm, hexDigit_toNat n hn] at this
  split at this <;> split at this <;> omega
theorem hexByte_inj (a b : UInt8) (h : hexByte a = hexByte b) : a = b := by
  unfold hexByte at h
  injection h with h1 h2
  injection h2 with h2
  have l := a.toNat_lt
  have r := b.toNat_lt
  have e1 := hexDigit_inj _ _ (by omega) (by omega) h1
  have e2 := hexDigit_inj _ _ (by omega) (by omega) h2
  apply UInt8.toNat.inj
  omega
theorem hexOf_inj (a b : List UInt8) (h : hexOf a = hexOf b) : a = b := by
  induction a generalizing b with
  | nil =>
    have := congrArg List.length h
    rw [hexOf_length, hexOf_length] at this
    exact (List.eq_nil_of_length_eq_zero (by simp at this; omega)).symm
  | cons x a ih =>
    cases b with
    | nil =>
      have := congrArg List.length h
      rw [hexOf_length, hexOf_length] at this
      simp at this
    | cons y b =>
      have h' : hexByte x ++ hexOf a = hexByte y ++ hexOf b := h
      have := List.append_inj h' rfl
      rw [hexByte_inj x y this.1, ih b this.2]

/-! ### SHA-256 -/
def rotr (x n : Nat) : Nat := (x / 2 ^ n) ||| (x * 2 ^ (32 - n) % 4294967296)
def ssig0 (x : Nat) : Nat := rotr x 7 ^^^ rotr x 18 ^^^ (x / 8)
def ssig1 (x : Nat) : Nat := rotr x 17 ^^^ rotr x 19 ^^^ (x / 1024)
def bsig0 (x : Nat) : Nat := rotr x 2 ^^^ rotr x 13 ^^^ rotr x 22
def bsig1 (x : Nat) : Nat := rotr x 6 ^^^ rotr x 11 ^^^ rotr x 25
def ch (e f g : Nat) : Nat := (e &&& f) ^^^ ((4294967295 - e) &&& g)
def maj (a b c : Nat) : Nat := (a &&& b) ^^^ (a &&& c) ^^^ (b &&& c)

theorem or_lt32 {a b : Nat} (ha : a < 4294967296) (hb : b < 4294967296) : a ||| b < 4294967296 := Nat.or_lt_two_pow (n := 32) ha hb
theorem xor_lt32 {a b : Nat} (ha : a < 4294967296) (hb : b < 4294967296) : a ^^^ b < 4294967296 := Nat.xor_lt_two_pow (n := 32) ha hb
theorem and_lt32 {a b : Nat} (hb : b < 4294967296) : a &&& b < 4294967296 := Nat.and_lt_two_pow (n := 32) a hb
theorem div_lt32 {a : Nat} (b : Nat) (ha : a < 4294967296) : a / b < 4294967296 := Nat.lt_of_le_of_lt (Nat.div_le_self a b) ha
theorem rotr_lt (x n : Nat) (h : x < 4294967296) : rotr x n < 4294967296 := or_lt32 (div_lt32 _ h) (Nat.mod_lt _ (by decide))
theorem ssig0_lt (x : Nat) (h : x < 4294967296) : ssig0 x < 4294967296 := xor_lt32 (xor_lt32 (rotr_lt _ _ h) (rotr_lt _ _ h)) (div_lt32 _ h)
theorem ssig1_lt (x : Nat) (h : x < 4294967296) : ssig1 x < 4294967296 := xor_lt32 (xor_lt32 (rotr_lt _ _ h) (rotr_lt _ _ h)) (div_lt32 _ h)
theorem bsig0_lt (x : Nat) (h : x < 4294967296) : bsig0 x < 4294967296 := xor_lt32 (xor_lt32 (rotr_lt _ _ h) (rotr_lt _ _ h)) (rotr_lt _ _ h)
theorem bsig1_lt (x : Nat) (h : x < 4294967296) : bsig1 x < 4294967296 := xor_lt32 (xor_lt32 (rotr_lt _ _ h) (rotr_lt _ _ h)) (rotr_lt _ _ h)
theorem ch_lt (e f g : Nat) (hf : f < 4294967296) (hg : g < 4294967296) : ch e f g < 4294967296 := xor_lt32 (and_lt32 hf) (and_lt32 hg)
theorem maj_lt (a b c : Nat) (hb : b < 4294967296) (hc : c < 4294967296) : maj a b c < 4294967296 := xor_lt32 (xor_lt32 (and_lt32 hb) (and_lt32 hc)) (and_lt32 hc)

/-- The next word of the schedule. -/
def nextWord (ws : List Nat) : Nat := (ws.getD (ws.length - 16) 0 + ssig0 (ws.getD (ws.length - 15) 0) + ws.getD (ws.length - 7) 0 + ssig1 (ws.getD (ws.length - 2) 0)) % 4294967296
/-- k more words. -/
def sched : Nat → List Nat → List Nat
  | 0, ws => ws
  | k + 1, ws => sched k ws ++ [nextWord (sched k ws)]
theorem sched_length (k : Nat) (ws : List Nat) : (sched k ws).length = ws.length + k := by
  induction k with
  | zero => rfl
  | succ k ih => simp [sched, ih]; omega

/-- The eight words. -/
structure H8 where
  a : Nat
  b : Nat
  c : Nat
  d : Nat
  e : Nat
  f : Nat
  g : Nat
  h : Nat
def H8.ok (v : H8) : Prop := v.a < 4294967296 ∧ v.b < 4294967296 ∧ v.c < 4294967296 ∧ v.d < 4294967296 ∧ v.e < 4294967296 ∧ v.f < 4294967296 ∧ v.g < 4294967296 ∧ v.h < 4294967296
def H8.words (v : H8) : List Nat := [v.a, v.b, v.c, v.d, v.e, v.f, v.g, v.h]
def H8.t (v : H8) (k w : Nat) : Nat := (v.h + bsig1 v.e + ch v.e v.f v.g + k + w) % 4294967296
def H8.round (v : H8) (k w : Nat) : H8 := ⟨(v.t k w + bsig0 v.a + maj v.a v.b v.c) % 4294967296, v.a, v.b, v.c, (v.d + v.t k w) % 4294967296, v.e, v.f, v.g⟩
theorem H8.round_ok (v : H8) (k w : Nat) (h : v.ok) : (v.round k w).ok :=
  ⟨Nat.mod_lt _ (by decide), h.1, h.2.1, h.2.2.1, Nat.mod_lt _ (by decide), h.2.2.2.2.1, h.2.2.2.2.2.1, h.2.2.2.2.2.2.1⟩
def kOf : List Nat := [0x428a2f98, 0x71374491, 0xb5c0fbcf, 0xe9b5dba5, 0x3956c25b, 0x59f111f1, 0x923f82a4, 0xab1c5ed5, 0xd807aa98, 0x12835b01, 0x243185be, 0x550c7dc3, 0x72be5d74, 0x80deb1fe, 0x9bdc06a7, 0xc19bf174, 0xe49b69c1, 0xefbe4786, 0x0fc19dc6, 0x240ca1cc, 0x2de92c6f, 0x4a7484aa, 0x5cb0a9dc, 0x76f988da, 0x983e5152, 0xa831c66d, 0xb00327c8, 0xbf597fc7, 0xc6e00bf3, 0xd5a79147, 0x06ca6351, 0x14292967, 0x27b70a85, 0x2e1b2138, 0x4d2c6dfc, 0x53380d13, 0x650a7354, 0x766a0abb, 0x81c2c92e, 0x92722c85, 0xa2bfe8a1, 0xa81a664b, 0xc24b8b70, 0xc76c51a3, 0xd192e819, 0xd6990624, 0xf40e3585, 0x106aa070, 0x19a4c116, 0x1e376c08, 0x2748774c, 0x34b0bcb5, 0x391c0cb3, 0x4ed8aa4a, 0x5b9cca4f, 0x682e6ff3, 0x748f82ee, 0x78a5636f, 0x84c87814, 0x8cc70208, 0x90befffa, 0xa4506ceb, 0xbef9a3f7, 0xc67178f2]
/-- The first i rounds. -/
def H8.rounds (v : H8) (ws : List Nat) : Nat → H8
  | 0 => v
  | i + 1 => (v.rounds ws i).round (kOf.getD i 0) (ws.getD i 0)
def H8.add (v u : H8) : H8 := ⟨(v.a + u.a) % 4294967296, (v.b + u.b) % 4294967296, (v.c + u.c) % 4294967296, (v.d + u.d) % 4294967296, (v.e + u.e) % 4294967296, (v.f + u.f) % 4294967296, (v.g + u.g) % 4294967296, (v.h + u.h) % 4294967296⟩
theorem H8.add_ok (v u : H8) : (v.add u).ok := ⟨Nat.mod_lt _ (by decide), Nat.mod_lt _ (by decide), Nat.mod_lt _ (by decide), Nat.mod_lt _ (by decide), Nat.mod_lt _ (by decide), Nat.mod_lt _ (by decide), Nat.mod_lt _ (by decide), Nat.mod_lt _ (by decide)⟩
theorem H8.rounds_ok (v : H8) (ws : List Nat) (i : Nat) (h : v.ok) : (v.rounds ws i).ok := by
  induction i with
  | zero => exact h
  | succ i ih => exact (v.rounds ws i).round_ok _ _ ih

/-- The word of four bytes from at on. -/
def wordAt (m : List UInt8) (at_ : Nat) : Nat := (m.getD at_ 0).toNat * 16777216 + (m.getD (at_ + 1) 0).toNat * 65536 + (m.getD (at_ + 2) 0).toNat * 256 + (m.getD (at_ + 3) 0).toNat
def wordsAt (m : List UInt8) (at_ : Nat) (k : Nat) : List Nat := (List.range k).map fun i => wordAt m (at_ + 4 * i)
/-- One block. -/
def H8.block (v : H8) (m : List UInt8) (at_ : Nat) : H8 := v.add (v.rounds (sched 48 (wordsAt m at_ 16)) 64)
/-- The first k blocks. -/
def H8.blocks (v : H8) (m : List UInt8) : Nat → H8
  | 0 => v
  | k + 1 => (v.blocks m k).block m (64 * k)
def h0 : H8 := ⟨0x6a09e667, 0xbb67ae85, 0x3c6ef372, 0xa54ff53a, 0x510e527f, 0x9b05688c, 0x1f83d9ab, 0x5be0cd19⟩
/-- The bytes of the lowest k bytes of n, the highest first. -/
def bytesOf (n : Nat) : Nat → List UInt8
  | 0 => []
  | k + 1 => UInt8.ofNat (n / 256 ^ k) :: bytesOf n k
theorem bytesOf_length (n k : Nat) : (bytesOf n k).length = k := by
  induction k with
  | zero => rfl
  | succ k ih => simp [bytesOf, ih]
def padZeros (len : Nat) : Nat := (119 - len % 64) % 64
def padded (b : List UInt8) : List UInt8 := b ++ [128] ++ List.replicate (padZeros b.length) 0 ++ bytesOf (8 * b.length) 8
theorem padded_length (b : List UInt8) : (padded b).length = 64 * ((b.length + 72) / 64) := by
  simp only [padded, padZeros, List.length_append, List.length_cons, List.length_nil, List.length_replicate, bytesOf_length]
  omega
def shaOf (b : List UInt8) : List UInt8 := (h0.blocks (padded b) ((b.length + 72) / 64)).words.flatMap fun w => bytesOf w 4
theorem H8.blocks_ok (v : H8) (m : List UInt8) (k : Nat) (h : v.ok) : (v.blocks m k).ok := by
  cases k with
  | zero => exact h
  | succ k => exact H8.add_ok _ _

theorem sha_abc : hexOf (shaOf [97, 98, 99]) = [98, 97, 55, 56, 49, 54, 98, 102, 56, 102, 48, 49, 99, 102, 101, 97, 52, 49, 52, 49, 52, 48, 100, 101, 53, 100, 97, 101, 50, 50, 50, 51, 98, 48, 48, 51, 54, 49, 97, 51, 57, 54, 49, 55, 55, 97, 57, 99, 98, 52, 49, 48, 102, 102, 54, 49, 102, 50, 48, 48, 49, 53, 97, 100] := by kernel_rfl
theorem sha_none : hexOf (shaOf []) = [101, 51, 98, 48, 99, 52, 52, 50, 57, 56, 102, 99, 49, 99, 49, 52, 57, 97, 102, 98, 102, 52, 99, 56, 57, 57, 54, 102, 98, 57, 50, 52, 50, 55, 97, 101, 52, 49, 101, 52, 54, 52, 57, 98, 57, 51, 52, 99, 97, 52, 57, 53, 57, 57, 49, 98, 55, 56, 53, 50, 98, 56, 53, 53] := by kernel_rfl
theorem sha_zeros : hexOf (shaOf (List.replicate 64 0)) = [102, 53, 97, 53, 102, 100, 52, 50, 100, 49, 54, 97, 50, 48, 51, 48, 50, 55, 57, 56, 101, 102, 54, 101, 100, 51, 48, 57, 57, 55, 57, 98, 52, 51, 48, 48, 51, 100, 50, 51, 50, 48, 100, 57, 102, 48, 101, 56, 101, 97, 57, 56, 51, 49, 97, 57, 50, 55, 53, 57, 102, 98, 52, 98] := by kernel_rfl

end Go.Proofs.Ytciecjnmiacmeaa
