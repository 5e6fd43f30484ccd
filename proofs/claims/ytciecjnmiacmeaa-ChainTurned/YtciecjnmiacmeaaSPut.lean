/-
  The program's putWord: a word's four bytes, the highest first, into an array of bytes.
-/
import Derived.Test.YtciecjnmiacmeaaSArr
namespace Go.Proofs.Ytciecjnmiacmeaa
open Go.RowKit

def putN (bs : List UInt8) (o x : Nat) : Nat → List UInt8
  | 0 => bs
  | k + 1 => (putN bs o x k).set (o + k) (UInt8.ofNat (x / 256 ^ (3 - k)))
theorem putN_length (bs : List UInt8) (o x k : Nat) : (putN bs o x k).length = bs.length := by
  induction k with
  | zero => rfl
  | succ k ih => simp [putN, ih]
/-- What it comes to. -/
theorem putN_four (l r : List UInt8) (a b c d : UInt8) (x : Nat) : putN (l ++ [a, b, c, d] ++ r) l.length x 4 = l ++ bytesOf x 4 ++ r := by
  simp only [putN, bytesOf, Nat.add_zero]
  rw [List.append_assoc, List.append_assoc]
  have s : ∀ (k : Nat) (m : List UInt8) (y : UInt8), (l ++ m).set (l.length + k) y = l ++ m.set k y := fun k m y => by
    rw [List.set_append_right _ _ (by omega), Nat.add_sub_cancel_left]
  have s0 : ∀ (m : List UInt8) (y : UInt8), (l ++ m).set l.length y = l ++ m.set 0 y := fun m y => s 0 m y
  rw [s0, s, s, s]
  rfl

theorem byte_mod (x d : Nat) (z : Int) (h : z = ((x / d % 256 : Nat) : Int)) : z = ((UInt8.ofNat (x / d)).toNat : Int) := by
  rw [UInt8.toNat_ofNat', h]

set_option maxHeartbeats 1000000 in
theorem putWord_any {w : World} {b t o n cap : Nat} {bs : List UInt8} (x : Nat) (hx : x < 4294967296) (ha : Ar w b t (cells bs)) (ho : o + 4 ≤ bs.length) (hn : 4 ≤ n) :
    Calls Try.prog 61 #[.slice (some ⟨b, o, none⟩) n cap, .int .u32 x] w fun e w' => e = .returned (.tuple #[]) ∧ Ar w' b t (cells (putN bs o x 4)) ∧ Kept (· ≠ b) w w' ∧ w'.heap.size = w.heap.size := by
  have hn' : (4 : Int) ≤ (n : Int) := by omega
  go_enter Try.func61, Try.ntmps61
  go_wp2
  go_loopw [5] (fun ti wr => ∃ k : Nat, k ≤ 4 ∧ ti = .int .i64 k ∧ Ar wr b t (cells (putN bs o x k)) ∧ Kept (· ≠ b) w wr ∧ Hid (wr.heap.size = w.heap.size)) (fun ti _ => 4 - (intOf ti).toNat)
  case atStart => exact ⟨0, by omega, rfl, ha, Kept.refl _ _, rfl⟩
  case round =>
    clear ha
    obtain ⟨k, hk, rfl, ar, kr, sr⟩ := hrel
    by_cases hlk : k < 4
    · have hc : ∃ y, wr.cell? ⟨b, o + k, none⟩ = some y := ⟨_, by rw [ar.cell, cells_getElem _ _ (by rw [putN_length]; omega)]⟩
      obtain ⟨y, hc⟩ := hc
      have hf := ar.free (o + k)
      have HS : Hid (∀ z : UInt8, Ar (wr.setCell ⟨b, o + k, none⟩ (.int .u8 z.toNat)) b t (cells ((putN bs o x k).set (o + k) z))) := fun z => by
        have := ar.set (o + k) (.int .u8 z.toNat)
        rwa [cells_set] at this
      have HP : Hid (putN bs o x (k + 1) = (putN bs o x k).set (o + k) (UInt8.ofNat (x / 256 ^ (3 - k)))) := rfl
      have HZ : Hid (∀ u, (wr.setCell ⟨b, o + k, none⟩ u).heap.size = wr.heap.size) := fun u => by simp [World.setCell]
      clear ar
      obtain rfl | rfl | rfl | rfl : k = 0 ∨ k = 1 ∨ k = 2 ∨ k = 3 := by omega
      · rw [Nat.add_zero] at hc hf
        go_wp2
        go_roundw
        case rel =>
          refine ⟨1, by omega, by go_num, ?_, kr.setCell (by simp) _, (HZ.out _).trans sr⟩
          rw [HP.out, byte_mod x (256 ^ (3 - 0)) ((x : Int) / 16777216) (by simp; omega)]
          exact HS.out _
        case measure => simp [intOf]
      · go_wp2
        go_roundw
        case rel =>
          refine ⟨2, by omega, by go_num, ?_, kr.setCell (by simp) _, (HZ.out _).trans sr⟩
          rw [HP.out, byte_mod x (256 ^ (3 - 1)) ((x : Int) / 65536 % 256) (by simp)]
          exact HS.out _
        case measure => simp [intOf]
      · go_wp2
        go_roundw
        case rel =>
          refine ⟨3, by omega, by go_num, ?_, kr.setCell (by simp) _, (HZ.out _).trans sr⟩
          rw [HP.out, byte_mod x (256 ^ (3 - 2)) ((x : Int) / 256 % 256) (by simp)]
          exact HS.out _
        case measure => simp [intOf]
      · go_wp2
        go_roundw
        case rel =>
          refine ⟨4, by omega, by go_num, ?_, kr.setCell (by simp) _, (HZ.out _).trans sr⟩
          rw [HP.out, byte_mod x (256 ^ (3 - 3)) ((x : Int) % 256) (by simp)]
          exact HS.out _
        case measure => simp [intOf]
    · have hkl : ¬ (k : Int) < 4 := by omega
      obtain rfl : k = 4 := by omega
      go_wp2
      go_end0
      exact ⟨rfl, ar, kr, sr⟩

end Go.Proofs.Ytciecjnmiacmeaa
