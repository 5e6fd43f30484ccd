/-
  Leases, plainly: while a holder may answer, who granted behind its asking bars.
-/
import Derived.Test.YtmppejhcjnodhaaGPlain
namespace Go.Proofs.Ytmppejhcjnodhaa

/-- So much time that a granter's clock shows the length is no less than the holder's share by its own clock. -/
theorem share_lt {r one d len : Int} (hr : Dr r) (h1 : 1000 - r ≤ one) (hd : 0 ≤ d) (h : d * one < share len r) : d * (1000 + r) < len := by
  obtain ⟨r0, r1⟩ := hr
  have e1 : share len r * (1000 + r) ≤ len * (1000 - r) := Int.ediv_mul_le _ (by omega)
  have e2 : (d * one + 1) * (1000 + r) ≤ share len r * (1000 + r) := Int.mul_le_mul_of_nonneg_right (by omega) (by omega)
  have e3 : d * (1000 - r) ≤ d * one := Int.mul_le_mul_of_nonneg_left h1 hd
  have e4 : (d * (1000 - r) + 1) * (1000 + r) ≤ (d * one + 1) * (1000 + r) := Int.mul_le_mul_of_nonneg_right (by omega) (by omega)
  have e5 : (d * (1000 - r) + 1) * (1000 + r) = d * (1000 + r) * (1000 - r) + (1000 + r) := by
    rw [Int.add_mul, Int.one_mul, Int.mul_right_comm]
  have e6 : d * (1000 + r) * (1000 - r) < len * (1000 - r) := by omega
  exact Int.lt_of_mul_lt_mul_right e6 (by omega)

/-- While the holder may answer, the granter bars. -/
theorem still {r one two a t n len : Int} (hr : Dr r) (h1 : 1000 - r ≤ one) (h0 : 0 ≤ two) (h2 : two ≤ 1000 + r) (ha : a ≤ t) (hn : t ≤ n) (h : n * one < a * one + share len r) : n * two < t * two + len := by
  have e := share_lt (d := n - a) (len := len) hr h1 (by omega) (by rw [Int.sub_mul]; omega)
  have e1 : (n - t) * two ≤ (n - a) * (1000 + r) := Int.mul_le_mul (by omega) h2 h0 (by omega)
  rw [Int.sub_mul] at e1
  omega

end Go.Proofs.Ytmppejhcjnodhaa
