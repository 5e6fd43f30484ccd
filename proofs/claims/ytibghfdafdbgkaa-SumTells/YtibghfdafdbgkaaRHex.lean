/-
  The document's own Hex (conclaveref2).
-/
import Derived.Test.YtibghfdafdbgkaaSHex
namespace Go.Proofs.Ytibghfdafdbgkaa
open Go.RowKit

theorem digits_cut : ∀ n : Fin 16, (digits.extract n.val (n.val + 1)).data.toList = [hexDigit n.val] := by decide +kernel
theorem digits_part (z z' : Int) (n : Nat) (hz : z = (n : Int)) (hz' : z' = ((n + 1 : Nat) : Int)) (hn : n < 16) : digits.extract z.toNat z'.toNat = ⟨#[hexDigit n]⟩ := by
  subst hz hz'
  have := digits_cut ⟨n, hn⟩
  apply ByteArray.ext
  apply Array.ext'
  exact this
theorem join_one (a : List UInt8) (b : UInt8) : (⟨a.toArray⟩ : ByteArray) ++ ⟨#[b]⟩ = ⟨(a ++ [b]).toArray⟩ := by
  apply ByteArray.ext
  simp

set_option maxRecDepth 100000 in
set_option maxHeartbeats 1000000 in
theorem rhex_any {w : World} {ao : Option Addr} {cap : Nat} {bs : List UInt8} (hh : Has w ao bs) (hl : (bs.length : Int) ≤ 1000000000000) :
    Calls Try.prog 16 #[.slice ao bs.length cap] w fun e w' => e = .returned (.string ⟨(hexOf bs).toArray⟩) ∧ ∃ n, w' = w.drewN n := by
  have HH : Hid (Has w ao bs) := hh
  clear hh
  go_enter Try.func16, Try.ntmps16
  go_wp2
  go_loopw [4, 3] (fun t r wr => ∃ k m : Nat, k ≤ bs.length ∧ t = .int .i64 k ∧ r = .string ⟨(hexOf (bs.take k)).toArray⟩ ∧ wr = w.drewN m) (fun t _ _ => bs.length - (intOf t).toNat)
  case atStart => exact ⟨0, 0, Nat.zero_le _, rfl, rfl, rfl⟩
  case round =>
    obtain ⟨k, m, hk, rfl, rfl, rfl⟩ := hrel
    by_cases hlt : k < bs.length
    · obtain ⟨b1, o1, rfl, h1⟩ := has_plain HH.out (by omega)
      have c1 := h1 k hlt
      have hkl : (k : Int) < (bs.length : Int) := by omega
      have hk0 : (0 : Int) ≤ (k : Int) := by omega
      have HS : Hid (hexOf (bs.take (k + 1)) = hexOf (bs.take k) ++ [hexDigit ((bs[k]).toNat / 16), hexDigit ((bs[k]).toNat % 16)]) := hexOf_take bs k hlt
      have lx : (hexOf (bs.take k)).length ≤ 2000000000000 := by rw [hexOf_length]; simp; omega
      have hy := (bs[k]).toNat_lt
      generalize (bs[k]).toNat = y at *
      have d1 := digits_part ((y : Int) / 16) ((y : Int) / 16 + 1) (y / 16) (by omega) (by omega) (by omega)
      have d2 := digits_part ((y : Int) % 16) ((y : Int) % 16 + 1) (y % 16) (by omega) (by omega) (by omega)
      unfold digits at d1 d2
      have l1 := low4_bits y (by omega)
      generalize hexDigit (y / 16) = x1 at *
      generalize hexDigit (y % 16) = x2 at *
      generalize hexOf (bs.take k) = X at *
      have j1 := join_one X x1
      have j2 := join_one (X ++ [x1]) x2
      have p1 : 0 ≤ (y : Int) / 16 ∧ (y : Int) / 16 ≤ (y : Int) / 16 + 1 ∧ (y : Int) / 16 + 1 ≤ 16 := by omega
      have p2 : 0 ≤ (y : Int) % 16 ∧ (y : Int) % 16 ≤ (y : Int) % 16 + 1 ∧ (y : Int) % 16 + 1 ≤ 16 := by omega
      clear h1
      go_wp2
      go_quiet (fail)
      go_wp2
      go_roundw
      case rel => exact ⟨k + 1, m + nq, by omega, by go_num, by rw [HS.out], rfl⟩
      case measure => simp [intOf]; omega
    · have hkl : ¬ ((k : Int) < (bs.length : Int)) := by omega
      obtain rfl : k = bs.length := by omega
      rw [List.take_length]
      go_wp2
      go_ret
      exact ⟨rfl, m, rfl⟩

end Go.Proofs.Ytibghfdafdbgkaa
