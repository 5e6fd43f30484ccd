/-
  Plain facts on floats of 64 bits that are whole numbers below 2^53: their words, read, added, subtracted, compared, cut and turned back.
-/
import Derived.Laws.FloatArith
namespace Go.Proofs.Ytmppejhcjnodhaa
open Go

/-- The word of a whole number. -/
def tw (a : Int) : Nat := FloatKind.f64.nearest a

/-- The rung of a whole number's size. -/
def rungOf (m : Nat) : Nat := if m = 0 then 0 else (m.log2 + 1022) * 2 ^ 52 + m * 2 ^ (52 - m.log2)

theorem log2_bounds {m : Nat} (h : m ≠ 0) : 2 ^ m.log2 ≤ m ∧ m < 2 ^ (m.log2 + 1) :=
  ⟨Nat.log2_self_le h, Nat.lt_log2_self⟩
theorem log2_small {m : Nat} (h0 : m ≠ 0) (h : m < 2 ^ 53) : m.log2 ≤ 52 := by
  have := (Nat.log2_lt h0).2 h
  omega
/-- The digits that are kept. -/
theorem kept_bounds {m : Nat} (h0 : m ≠ 0) (h : m < 2 ^ 53) : 2 ^ 52 ≤ m * 2 ^ (52 - m.log2) ∧ m * 2 ^ (52 - m.log2) < 2 ^ 53 := by
  have hl := log2_small h0 h
  obtain ⟨h1, h2⟩ := log2_bounds h0
  have e1 : 2 ^ m.log2 * 2 ^ (52 - m.log2) = 2 ^ 52 := by rw [← Nat.pow_add]; congr 1; omega
  have e2 : 2 ^ (m.log2 + 1) * 2 ^ (52 - m.log2) = 2 ^ 53 := by rw [← Nat.pow_add]; congr 1; omega
  constructor
  · rw [← e1]; exact Nat.mul_le_mul_right _ h1
  · rw [← e2]; exact Nat.mul_lt_mul_of_pos_right h2 (Nat.two_pow_pos _)

theorem log2_mul_pow (m k : Nat) (h : m ≠ 0) : (m * 2 ^ k).log2 = m.log2 + k := by
  have hp : m * 2 ^ k ≠ 0 := Nat.mul_ne_zero h (Nat.pos_iff_ne_zero.1 (Nat.two_pow_pos k))
  obtain ⟨h1, h2⟩ := log2_bounds h
  have a : m.log2 + k ≤ (m * 2 ^ k).log2 := by
    rw [Nat.le_log2 hp, Nat.pow_add]; exact Nat.mul_le_mul_right _ h1
  have b : (m * 2 ^ k).log2 < m.log2 + k + 1 := by
    rw [Nat.log2_lt hp, show m.log2 + k + 1 = (m.log2 + 1) + k by omega, Nat.pow_add]; exact Nat.mul_lt_mul_of_pos_right h2 (Nat.two_pow_pos _)
  omega

theorem leastPlace_double : Ieee.double.leastPlace = -1074 := by decide
theorem binade_double : Ieee.double.binade = 2 ^ 52 := rfl
theorem infRung_double : Ieee.double.infRung = 2047 * 2 ^ 52 := by decide
theorem sign_double : Ieee.double.signWeight = 2 ^ 63 := rfl

/-- Nothing is left over: what is cut off are noughts alone. -/
theorem cut_exact (way : Ieee.Toward) (neg : Bool) (q d : Nat) : way.cut neg (q * 2 ^ d) d = q := by
  by_cases hq : q = 0
  · subst hq
    rw [Nat.zero_mul]
    unfold Ieee.Toward.cut
    have hg : (1 <<< min d (Nat.log2 0 + 2) : Nat) ≠ 0 := by
      rw [Nat.shiftLeft_eq, Nat.one_mul]; exact Nat.pos_iff_ne_zero.1 (Nat.two_pow_pos _)
    generalize (1 <<< min d (Nat.log2 0 + 2) : Nat) = g at hg
    have hb : (g == 0) = false := by simpa using hg
    cases way <;> simp [hb]
  · unfold Ieee.Toward.cut
    have hm : min d ((q * 2 ^ d).log2 + 2) = d := by rw [log2_mul_pow q d hq]; omega
    rw [hm, Nat.shiftLeft_eq, Nat.one_mul]
    have hp := Nat.two_pow_pos d
    have hb : (2 ^ d == 0) = false := by simp
    cases way <;> simp [Nat.mul_div_cancel _ hp]

theorem nearest_scaled (neg : Bool) (m k : Nat) (h : m < 2 ^ 53) : Ieee.double.nearest neg (m * 2 ^ k) (-(k : Int)) = Ieee.double.word neg (rungOf m) := by
  unfold rungOf
  by_cases h0 : m = 0
  · subst h0
    simp [Ieee.Format.nearest]
  · have hl := log2_small h0 h
    have hk := kept_bounds h0 h
    have hp : m * 2 ^ k ≠ 0 := Nat.mul_ne_zero h0 (Nat.pos_iff_ne_zero.1 (Nat.two_pow_pos k))
    unfold Ieee.Format.nearest
    rw [if_neg hp, if_neg h0, log2_mul_pow m k h0, leastPlace_double, binade_double, infRung_double]
    have hlast : max (-(k : Int) + ((m.log2 + k : Nat) : Int) - (Ieee.double.fractionBits : Int)) (-1074) = (m.log2 : Int) - 52 := by
      show max (-(k : Int) + ((m.log2 + k : Nat) : Int) - 52) (-1074) = _
      omega
    dsimp only
    rw [hlast]
    have hcut : Ieee.Toward.even.cut neg ((m * 2 ^ k) <<< (-(k : Int) - ((m.log2 : Int) - 52)).toNat) ((m.log2 : Int) - 52 - -(k : Int)).toNat = m * 2 ^ (52 - m.log2) := by
      by_cases hc : k ≤ 52 - m.log2
      · have e1 : (-(k : Int) - ((m.log2 : Int) - 52)).toNat = 52 - m.log2 - k := by omega
        have e2 : ((m.log2 : Int) - 52 - -(k : Int)).toNat = 0 := by omega
        rw [e1, e2, Nat.shiftLeft_eq, Nat.mul_assoc, ← Nat.pow_add, show k + (52 - m.log2 - k) = 52 - m.log2 by omega]
        have := cut_exact .even neg (m * 2 ^ (52 - m.log2)) 0
        rwa [Nat.pow_zero, Nat.mul_one] at this
      · have e1 : (-(k : Int) - ((m.log2 : Int) - 52)).toNat = 0 := by omega
        have e2 : ((m.log2 : Int) - 52 - -(k : Int)).toNat = k - (52 - m.log2) := by omega
        have e3 : m * 2 ^ k = m * 2 ^ (52 - m.log2) * 2 ^ (k - (52 - m.log2)) := by
          rw [Nat.mul_assoc, ← Nat.pow_add, show 52 - m.log2 + (k - (52 - m.log2)) = k by omega]
        rw [e1, e2, Nat.shiftLeft_zero, e3]
        exact cut_exact .even neg _ _
    rw [hcut, show ((m.log2 : Int) - 52 - -1074).toNat = m.log2 + 1022 by omega, Nat.min_eq_left]
    omega

theorem tw_word (a : Int) (h : a.natAbs < 2 ^ 53) : tw a = Ieee.double.word (decide (a < 0)) (rungOf a.natAbs) := by
  have := nearest_scaled (decide (a < 0)) a.natAbs 0 h
  rw [Nat.pow_zero, Nat.mul_one] at this
  exact this

theorem rungOf_lt (m : Nat) (h : m < 2 ^ 53) : rungOf m < 2047 * 2 ^ 52 := by
  unfold rungOf
  by_cases h0 : m = 0
  · rw [if_pos h0]; decide
  · rw [if_neg h0]
    have hl := log2_small h0 h
    have hk := kept_bounds h0 h
    omega

/-- A whole number's word, read. -/
theorem read_word (neg : Bool) (m : Nat) (h : m < 2 ^ 53) : ∃ k : Nat, Ieee.double.read (Ieee.double.word neg (rungOf m)) = .number neg (m * 2 ^ k) (-(k : Int)) := by
  have hr := rungOf_lt m h
  have hneg : (Ieee.double.word neg (rungOf m) / 2 ^ 63 % 2 == 1) = neg := by
    unfold Ieee.Format.word
    rw [sign_double]
    cases neg
    · have : rungOf m / 2 ^ 63 = 0 := Nat.div_eq_of_lt (by omega)
      simp [this]
    · have : (2 ^ 63 + rungOf m) / 2 ^ 63 = 1 := by omega
      simp only [if_true, this]
      rfl
  have hmod : Ieee.double.word neg (rungOf m) % 2 ^ 63 = rungOf m := by
    unfold Ieee.Format.word
    rw [sign_double]
    cases neg
    · show rungOf m % 2 ^ 63 = rungOf m
      exact Nat.mod_eq_of_lt (by omega)
    · simp only [if_true]; omega
  unfold Ieee.Format.read
  rw [sign_double, hneg, hmod, binade_double, infRung_double, leastPlace_double]
  by_cases h0 : m = 0
  · subst h0
    refine ⟨1074, ?_⟩
    have e : rungOf 0 = 0 := rfl
    rw [e, if_pos (Nat.two_pow_pos 52), show (-1074 : Int) = -((1074 : Nat) : Int) from rfl]
    generalize 1074 = n
    rw [Nat.zero_mul]
  · refine ⟨52 - m.log2, ?_⟩
    have hl := log2_small h0 h
    have hk := kept_bounds h0 h
    have e : rungOf m = (m.log2 + 1022) * 2 ^ 52 + m * 2 ^ (52 - m.log2) := by unfold rungOf; rw [if_neg h0]
    generalize m * 2 ^ (52 - m.log2) = q at *
    dsimp only
    rw [if_neg (by omega), if_pos (by omega)]
    have e1 : 2 ^ 52 + rungOf m % 2 ^ 52 = q := by omega
    have e2 : rungOf m / 2 ^ 52 = m.log2 + 1023 := by omega
    rw [e1, e2, show (-1074 : Int) + ((m.log2 + 1023 - 1 : Nat) : Int) = -((52 - m.log2 : Nat) : Int) by omega]

theorem read_tw (a : Int) (h : a.natAbs < 2 ^ 53) : ∃ k : Nat, Ieee.double.read (tw a) = .number (decide (a < 0)) (a.natAbs * 2 ^ k) (-(k : Int)) := by
  rw [tw_word a h]
  exact read_word _ _ h

theorem signed_scaled (a : Int) (i : Nat) (up : Nat) : Ieee.signed (decide (a < 0)) (a.natAbs * 2 ^ i) up = a * 2 ^ (i + up) := by
  unfold Ieee.signed
  rw [Nat.shiftLeft_eq, Nat.mul_assoc, ← Nat.pow_add]
  generalize i + up = n
  by_cases h : a < 0
  · rw [if_pos (by simpa using h), Int.natCast_mul, Int.natCast_pow]
    have : ((a.natAbs : Nat) : Int) = -a := by omega
    rw [this, Int.neg_mul, Int.neg_neg]
    rfl
  · rw [if_neg (by simpa using h), Int.natCast_mul, Int.natCast_pow]
    have : ((a.natAbs : Nat) : Int) = a := by omega
    rw [this]
    rfl
theorem signed_turned (a : Int) (i : Nat) (up : Nat) : Ieee.signed (!decide (a < 0)) (a.natAbs * 2 ^ i) up = -a * 2 ^ (i + up) := by
  unfold Ieee.signed
  rw [Nat.shiftLeft_eq, Nat.mul_assoc, ← Nat.pow_add]
  generalize i + up = n
  by_cases h : a < 0
  · rw [if_neg (by simpa using h), Int.natCast_mul, Int.natCast_pow]
    have : ((a.natAbs : Nat) : Int) = -a := by omega
    rw [this]
    rfl
  · rw [if_pos (by simpa using h), Int.natCast_mul, Int.natCast_pow]
    have : ((a.natAbs : Nat) : Int) = a := by omega
    rw [this, Int.neg_mul]
    rfl

theorem pow_pos_int (n : Nat) : (0 : Int) < 2 ^ n := by
  have := Nat.two_pow_pos n
  have e : ((2 ^ n : Nat) : Int) = (2 : Int) ^ n := Int.natCast_pow 2 n
  omega
theorem scaled_zero (c : Int) (n : Nat) : c * 2 ^ n = 0 ↔ c = 0 := by
  have := pow_pos_int n
  constructor
  · intro h
    rcases Int.mul_eq_zero.1 h with h | h
    · exact h
    · omega
  · rintro rfl; exact Int.zero_mul _
theorem scaled_neg (c : Int) (n : Nat) : c * 2 ^ n < 0 ↔ c < 0 := by
  have hp := pow_pos_int n
  constructor
  · intro h
    exact Int.not_le.1 fun hc => absurd (Int.mul_nonneg hc (Int.le_of_lt hp)) (by omega)
  · intro h
    exact Int.mul_neg_of_neg_of_pos h hp
theorem scaled_abs (c : Int) (n : Nat) : (c * 2 ^ n).natAbs = c.natAbs * 2 ^ n := by
  rw [Int.natAbs_mul, Int.natAbs_pow]
  rfl

/-- The sum of two whole numbers, written. -/
theorem sum_written {s t : Bool} {a b : Int} {x y : Ieee.Datum} {i j : Nat} (hx : x = .number s (a.natAbs * 2 ^ i) (-(i : Int))) (hy : y = .number t (b.natAbs * 2 ^ j) (-(j : Int)))
    (hs : ∀ up, Ieee.signed s (a.natAbs * 2 ^ i) up = a * 2 ^ (i + up)) (ht : ∀ up, Ieee.signed t (b.natAbs * 2 ^ j) up = b * 2 ^ (j + up)) (hz : a + b = 0 → (s && t) = false) (hc : (a + b).natAbs < 2 ^ 53) :
    (x.sum y).map Ieee.double.write = some (tw (a + b)) := by
  subst hx hy
  obtain ⟨K, h1, h2⟩ : ∃ K : Nat, i + (-(i : Int) - min (-(i : Int)) (-(j : Int))).toNat = K ∧ j + (-(j : Int) - min (-(i : Int)) (-(j : Int))).toNat = K := ⟨max i j, by omega, by omega⟩
  have h3 : min (-(i : Int)) (-(j : Int)) = -(K : Int) := by omega
  have hsum : Ieee.Datum.sum (.number s (a.natAbs * 2 ^ i) (-(i : Int))) (.number t (b.natAbs * 2 ^ j) (-(j : Int))) = some (.number (decide (a + b < 0)) ((a + b).natAbs * 2 ^ K) (-(K : Int))) := by
    unfold Ieee.Datum.sum
    dsimp only
    rw [hs, ht, h1, h2, h3, ← Int.add_mul, scaled_abs]
    congr 2
    by_cases hab : a + b = 0
    · rw [if_pos ((scaled_zero _ _).2 hab), hz hab, hab]; rfl
    · rw [if_neg (fun h => hab ((scaled_zero _ _).1 h))]
      simp only [scaled_neg]
  rw [hsum]
  show some (Ieee.double.nearest (decide (a + b < 0)) ((a + b).natAbs * 2 ^ K) (-(K : Int))) = _
  rw [nearest_scaled _ _ _ hc, tw_word _ hc]

theorem add_tw (a b : Int) (ha : a.natAbs < 2 ^ 53) (hb : b.natAbs < 2 ^ 53) (hc : (a + b).natAbs < 2 ^ 53) : floatBits .add .f64 (tw a) (tw b) = some (tw (a + b)) := by
  obtain ⟨i, hi⟩ := read_tw a ha
  obtain ⟨j, hj⟩ := read_tw b hb
  exact sum_written hi hj (signed_scaled a i) (signed_scaled b j) (by intro h; by_cases h1 : a < 0 <;> by_cases h2 : b < 0 <;> simp [h1, h2]; omega) hc

theorem sub_tw (a b : Int) (ha : a.natAbs < 2 ^ 53) (hb : b.natAbs < 2 ^ 53) (hc : (a - b).natAbs < 2 ^ 53) : floatBits .sub .f64 (tw a) (tw b) = some (tw (a - b)) := by
  obtain ⟨i, hi⟩ := read_tw a ha
  obtain ⟨j, hj⟩ := read_tw b hb
  have hy : (Ieee.double.read (tw b)).opposite = .number (!decide (b < 0)) ((-b).natAbs * 2 ^ j) (-(j : Int)) := by rw [hj, Int.natAbs_neg]; rfl
  have := sum_written (a := a) (b := -b) hi hy (signed_scaled a i) (fun up => by rw [Int.natAbs_neg]; exact signed_turned b j up) (by intro h; by_cases h1 : a < 0 <;> by_cases h2 : b < 0 <;> simp [h1, h2]; omega) (by rw [← Int.sub_eq_add_neg]; exact hc)
  rw [← Int.sub_eq_add_neg] at this
  exact this

theorem compare_scaled (a b : Int) (n : Nat) : compare (a * 2 ^ n) (b * 2 ^ n) = compare a b := by
  have hp := pow_pos_int n
  rcases Int.lt_trichotomy a b with h | h | h
  · rw [Int.compare_eq_lt.2 h, Int.compare_eq_lt]
    exact Int.mul_lt_mul_of_pos_right h hp
  · subst h; rw [Int.compare_eq_eq.2 rfl, Int.compare_eq_eq.2 rfl]
  · rw [Int.compare_eq_gt.2 h, Int.compare_eq_gt]
    exact Int.mul_lt_mul_of_pos_right h hp

theorem order_tw (a b : Int) (ha : a.natAbs < 2 ^ 53) (hb : b.natAbs < 2 ^ 53) : FloatKind.f64.format.order (tw a) (tw b) = some (compare a b) := by
  obtain ⟨i, hi⟩ := read_tw a ha
  obtain ⟨j, hj⟩ := read_tw b hb
  show (Ieee.double.read (tw a)).order (Ieee.double.read (tw b)) = _
  rw [hi, hj]
  obtain ⟨K, h1, h2⟩ : ∃ K : Nat, i + (-(i : Int) - min (-(i : Int)) (-(j : Int))).toNat = K ∧ j + (-(j : Int) - min (-(i : Int)) (-(j : Int))).toNat = K := ⟨max i j, by omega, by omega⟩
  unfold Ieee.Datum.order
  dsimp only
  rw [signed_scaled, signed_scaled, h1, h2, compare_scaled]

/-- Cut towards nought it is itself. -/
theorem integral_tw (a : Int) (h : a.natAbs < 2 ^ 53) (way : Ieee.Toward) : (Ieee.double.read (tw a)).integral way = .number (decide (a < 0)) a.natAbs 0 := by
  obtain ⟨i, hi⟩ := read_tw a h
  rw [hi]
  unfold Ieee.Datum.integral
  dsimp only
  rw [show (-(i : Int)).toNat = 0 by omega, Nat.shiftLeft_zero, show (- -(i : Int)).toNat = i by omega, cut_exact]

theorem toInt_tw (a : Int) (h : a.natAbs < 2 ^ 53) : floatToIntVal .f64 (tw a) .i64 = some a := by
  have hi : (FloatKind.f64.decode (tw a)).toInt .zero = some a := by
    show (Ieee.double.read (tw a)).toInt .zero = some a
    unfold Ieee.Datum.toInt
    rw [integral_tw a h .zero]
    have := signed_scaled a 0 0
    rw [Nat.pow_zero, Nat.mul_one] at this
    dsimp only
    rw [this]
    simp
  unfold floatToIntVal
  rw [hi]
  have h1 : IntKind.min .i64 = -9223372036854775808 := by decide
  have h2 : IntKind.max .i64 = 9223372036854775807 := by decide
  dsimp only
  rw [if_pos]
  rw [h1, h2]
  omega

theorem trunc_tw (a : Int) (h : a.natAbs < 2 ^ 53) : FloatKind.f64.encode ((FloatKind.f64.decode (tw a)).integral .zero) = tw a := by
  show Ieee.double.write ((Ieee.double.read (tw a)).integral .zero) = tw a
  rw [integral_tw a h .zero]
  rfl

end Go.Proofs.Ytmppejhcjnodhaa
