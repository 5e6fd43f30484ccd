/-
  The program's putWord: a word's four bytes, the highest first, into an array of bytes.
-/
import Derived.Test.YtbooeabmpdpgpaaShaBits
import Derived.Great.BuildSlice
namespace Go.Proofs.Ytbooeabmpdpgpaa
open Go.RowKit

def putN (bs : List UInt8) (o x : Nat) : Nat → List UInt8
  | 0 => bs
  | k + 1 => (putN bs o x k).set (o + k) (UInt8.ofNat (x / 256 ^ (3 - k)))
theorem putN_length (bs : List UInt8) (o x k : Nat) : (putN bs o x k).length = bs.length := by
  induction k with
  | zero => rfl
  | succ k ih => simp [putN, ih]
/-- What it comes to. -/
theorem putN_four (l r : List UInt8) (a b c d : UInt8) (x : Nat) : putN (l ++ [a, b, c, d] ++ r) l.length x 4 = l ++ bytesOf x 4 ++ r := by
  simp only [putN, bytesOf, Nat.add_zero]
  rw [List.append_assoc, List.append_assoc]
  have s : ∀ (k : Nat) (m : List UInt8) (y : UInt8), (l ++ m).set (l.length + k) y = l ++ m.set k y := fun k m y => by
    rw [List.set_append_right _ _ (by omega), Nat.add_sub_cancel_left]
  have s0 : ∀ (m : List UInt8) (y : UInt8), (l ++ m).set l.length y = l ++ m.set 0 y := fun m y => s 0 m y
  rw [s0, s, s, s]
  rfl

theorem byte_mod (x d : Nat) (z : Int) (h : z = ((x / d % 256 : Nat) : Int)) : z = ((UInt8.ofNat (x / d)).toNat : Int) := by
  rw [UInt8.toNat_ofNat', h]

set_option maxHeartbeats 1000000 in
theorem putWord_any {w : World} {b t o n cap : Nat} {bs : List UInt8} (x : Nat) (hx : x < 4294967296) (ha : Ar w b t (cells bs)) (ho : o + 4 ≤ bs.length) (hn : 4 ≤ n) :
    Calls Try.prog 97 #[.slice (some ⟨b, o, none⟩) n cap, .int .u32 x] w fun e w' => e = .returned (.tuple #[]) ∧ Ar w' b t (cells (putN bs o x 4)) ∧ Kept (· ≠ b) w w' ∧ w'.heap.size = w.heap.size := by
  have hn' : (4 : Int) ≤ (n : Int) := by omega
  go_enter Try.func97, Try.ntmps97
  go_wp2
  go_loopw [5] (fun ti wr => ∃ k : Nat, k ≤ 4 ∧ ti = .int .i64 k ∧ Ar wr b t (cells (putN bs o x k)) ∧ Kept (· ≠ b) w wr ∧ Hid (wr.heap.size = w.heap.size)) (fun ti _ => 4 - (intOf ti).toNat)
  case atStart => exact ⟨0, by omega, rfl, ha, Kept.refl _ _, rfl⟩
  case round =>
    clear ha
    obtain ⟨k, hk, rfl, ar, kr, sr⟩ := hrel
    by_cases hlk : k < 4
    · have hc : ∃ y, wr.cell? ⟨b, o + k, none⟩ = some y := ⟨_, by rw [ar.cell, cells_getElem _ _ (by rw [putN_length]; omega)]⟩
      obtain ⟨y, hc⟩ := hc
      have hf := ar.free (o + k)
      have HS : Hid (∀ z : UInt8, Ar (wr.setCell ⟨b, o + k, none⟩ (.int .u8 z.toNat)) b t (cells ((putN bs o x k).set (o + k) z))) := fun z => by
        have := ar.set (o + k) (.int .u8 z.toNat)
        rwa [cells_set] at this
      have HP : Hid (putN bs o x (k + 1) = (putN bs o x k).set (o + k) (UInt8.ofNat (x / 256 ^ (3 - k)))) := rfl
      have HZ : Hid (∀ u, (wr.setCell ⟨b, o + k, none⟩ u).heap.size = wr.heap.size) := fun u => by simp [World.setCell]
      clear ar
      obtain rfl | rfl | rfl | rfl : k = 0 ∨ k = 1 ∨ k = 2 ∨ k = 3 := by omega
      · rw [Nat.add_zero] at hc hf
        go_wp2
        go_roundw
        case rel =>
          refine ⟨1, by omega, by go_num, ?_, kr.setCell (by simp) _, (HZ.out _).trans sr⟩
          rw [HP.out, byte_mod x (256 ^ (3 - 0)) ((x : Int) / 16777216) (by simp; omega)]
          exact HS.out _
        case measure => simp [intOf]
      · go_wp2
        go_roundw
        case rel =>
          refine ⟨2, by omega, by go_num, ?_, kr.setCell (by simp) _, (HZ.out _).trans sr⟩
          rw [HP.out, byte_mod x (256 ^ (3 - 1)) ((x : Int) / 65536 % 256) (by simp)]
          exact HS.out _
        case measure => simp [intOf]
      · go_wp2
        go_roundw
        case rel =>
          refine ⟨3, by omega, by go_num, ?_, kr.setCell (by simp) _, (HZ.out _).trans sr⟩
          rw [HP.out, byte_mod x (256 ^ (3 - 2)) ((x : Int) / 256 % 256) (by simp)]
          exact HS.out _
        case measure => simp [intOf]
      · go_wp2
        go_roundw
        case rel =>
          refine ⟨4, by omega, by go_num, ?_, kr.setCell (by simp) _, (HZ.out _).trans sr⟩
          rw [HP.out, byte_mod x (256 ^ (3 - 3)) ((x : Int) % 256) (by simp)]
          exact HS.out _
        case measure => simp [intOf]
    · have hkl : ¬ (k : Int) < 4 := by omega
      obtain rfl : k = 4 := by omega
      go_wp2
      go_end0
      exact ⟨rfl, ar, kr, sr⟩

end Go.Proofs.Ytbooeabmpdpgpaa

namespace Go.Proofs.Ytbooeabmpdpgpaa
open Go.RowKit

def padSize (n : Nat) : Nat := if n + 9 > 64 then 128 else 64
/-- The last bytes, with what is behind them, and noughts up to the array's end. -/
def padEnd (last : List UInt8) (n : Nat) : List UInt8 := last ++ [128] ++ List.replicate (padSize last.length - last.length - 9) 0 ++ bytesOf (8 * n) 8 ++ List.replicate (128 - padSize last.length) 0

theorem ofNat_mod (a b : Nat) (h : a % 256 = b % 256) : UInt8.ofNat a = UInt8.ofNat b := by
  apply UInt8.toNat.inj
  rw [UInt8.toNat_ofNat', UInt8.toNat_ofNat', h]
theorem bytesOf_eight (x : Nat) : bytesOf x 8 = bytesOf (x / 4294967296) 4 ++ bytesOf (x % 4294967296) 4 := by
  show [_, _, _, _, _, _, _, _] = [_, _, _, _, _, _, _, _]
  have e : ∀ k : Nat, x / 4294967296 / 256 ^ k = x / 256 ^ (k + 4) := fun k => by
    rw [Nat.div_div_eq_div_mul, show (4294967296 : Nat) = 256 ^ 4 from rfl, ← Nat.pow_add, Nat.add_comm]
  rw [e 3, e 2, e 1, e 0]
  rw [ofNat_mod (x / 256 ^ 3) (x % 4294967296 / 256 ^ 3) (by simp; omega), ofNat_mod (x / 256 ^ 2) (x % 4294967296 / 256 ^ 2) (by simp; omega), ofNat_mod (x / 256 ^ 1) (x % 4294967296 / 256 ^ 1) (by simp; omega), ofNat_mod (x / 256 ^ 0) (x % 4294967296 / 256 ^ 0) (by simp)]
theorem pad_put (last : List UInt8) (n : Nat) (hl : last.length < 64) :
    putN (putN ((last ++ List.replicate (128 - last.length) 0).set last.length 128) (padSize last.length - 8) (8 * n / 4294967296) 4) (padSize last.length - 4) (8 * n % 4294967296) 4 = padEnd last n := by
  have hs : padSize last.length = 64 ∧ last.length + 9 ≤ 64 ∨ padSize last.length = 128 := by
    unfold padSize; split <;> omega
  obtain ⟨z, hz⟩ : ∃ z, padSize last.length = last.length + 9 + z := ⟨padSize last.length - last.length - 9, by omega⟩
  obtain ⟨y, hy⟩ : ∃ y, 128 = padSize last.length + y := ⟨128 - padSize last.length, by omega⟩
  have e1 : (last ++ List.replicate (128 - last.length) (0 : UInt8)).set last.length 128 = (last ++ [128] ++ List.replicate z 0) ++ [0, 0, 0, 0] ++ ([0, 0, 0, 0] ++ List.replicate y 0) := by
    rw [show 128 - last.length = (z + (4 + (4 + y))) + 1 by omega, List.replicate_succ, List.set_append_right _ _ (Nat.le_refl _), Nat.sub_self, List.set_cons_zero, ← List.replicate_append_replicate, ← List.replicate_append_replicate, ← List.replicate_append_replicate]
    simp [List.replicate]
  have l1 : (last ++ [128] ++ List.replicate z (0 : UInt8)).length = padSize last.length - 8 := by simp; omega
  rw [e1, ← l1, putN_four]
  have e2 : (last ++ [128] ++ List.replicate z (0 : UInt8)) ++ bytesOf (8 * n / 4294967296) 4 ++ ([0, 0, 0, 0] ++ List.replicate y 0) = ((last ++ [128] ++ List.replicate z (0 : UInt8)) ++ bytesOf (8 * n / 4294967296) 4) ++ [0, 0, 0, 0] ++ List.replicate y 0 := by simp
  have l2 : ((last ++ [128] ++ List.replicate z (0 : UInt8)) ++ bytesOf (8 * n / 4294967296) 4).length = padSize last.length - 4 := by simp [bytesOf_length]; omega
  rw [e2, ← l2, putN_four]
  unfold padEnd
  rw [bytesOf_eight, show padSize last.length - last.length - 9 = z by omega, show 128 - padSize last.length = y by omega]
  simp

/-- copy into an array of bytes, from its front. -/
theorem copy_arr (W : World) (b t m : Nat) (xs bs : List UInt8) (ao : Option Addr) (cap : Nat) (ha : Ar W b t (cells xs)) (hx : xs.length = m) (hm : bs.length ≤ m) (hs : Has W ao bs) :
    ∃ W', (Builtin.copy_ #[25, 25] 3 #[.slice (some ⟨b, 0, none⟩) m m, .slice ao bs.length cap]).run Try.prog W = .ok (.int .i64 bs.length) W' ∧
      Ar W' b t (cells (bs ++ xs.drop bs.length)) ∧ Kept (· ≠ b) W W' ∧ W'.heap.size = W.heap.size := by
  by_cases h0 : 0 < bs.length
  · obtain ⟨ad, rfl, hcell⟩ := hs h0
    have hrun := run_copy_row (P := Try.prog) W 25 25 3 5 b 0 m m ad bs.length cap (cells xs).toArray t (cells bs) Try.underlying25 Try.infoSize ha (by rw [cells_length]; exact (Nat.min_eq_left hm).symm) (Has.src hcell) (by simp [cells_length]; omega) (cells_one bs)
    refine ⟨_, ?_, setRow_heap W b _ (cells (bs ++ xs.drop bs.length)).toArray t _ ha, (Kept.refl _ _).setRow (by simp) _, by simp [World.setRow]⟩
    rw [hrun]
    simp [cells, List.map_drop]
    rfl
  · have hn : bs = [] := List.eq_nil_of_length_eq_zero (by omega)
    subst hn
    exact ⟨W, run_copy_none (P := Try.prog) W 25 25 3 5 _ _ _ _ _ _ Try.underlying25 Try.infoSize (by simp), by simpa using ha, Kept.refl _ _, rfl⟩

theorem zeros_b (n : Nat) : List.replicate n (Value.int .u8 0) = cells (List.replicate n 0) := by simp [cells]

set_option maxRecDepth 100000 in
set_option maxHeartbeats 1000000 in
theorem padded_any {w : World} {ao : Option Addr} {cap n : Nat} {last : List UInt8} (hh : Has w ao last) (hl : last.length < 64) (hn : n ≤ 140737488355328) :
    Calls Try.prog 96 #[.slice ao last.length cap, .int .u64 n] w fun e w' => e = .returned (.tuple #[.agg (cells (padEnd last n)).toArray, .int .i64 (padSize last.length : Nat)]) ∧ Kept (fun _ => True) w w' := by
  have HH : Hid (Has w ao last) := hh
  clear hh
  go_enter Try.func96, Try.ntmps96
  go_wp2_with (first
    | ((with_reducible refine w_alloc (d := some 4) arr128 ?_); intro w1 a4 k1 s1)
    | ((with_reducible refine w_alloc (d := some 6) arr128 ?_); intro w2 a6 k2 s2))
  rw [zeros_b] at a4 a6
  have a4' := a4.kept k2 trivial
  obtain ⟨w3, hrun, a6', k3, s3⟩ := copy_arr w2 w1.heap.size 156 128 (List.replicate 128 0) last ao cap a6 (by simp) (by omega) (HH.out.kept (k1.trans k2) (fun _ _ => trivial))
  have q1 := s1.out
  have q2 := s2.out
  have a4w := a4'.kept k3 (by omega)
  have K03 : Kept (fun _ => True) w w3 := (k1.trans k2).then k3 (fun i hi _ => by omega)
  have d1 : w.heap.size < w1.heap.size := by omega
  have d2 : w1.heap.size < w3.heap.size := by omega
  rw [List.drop_replicate] at a6'
  clear a4 a6 a4' k1 k2 k3 s1 s2 s3 q1 q2 HH
  rw [hrun]
  clear hrun
  generalize w1.heap.size = B6 at *
  obtain ⟨B4, hB⟩ : ∃ B, B = w.heap.size := ⟨_, rfl⟩
  rw [← hB] at a4w d1 ⊢
  have HB : Hid (B4 = w.heap.size) := hB
  clear hB
  have ll : (last ++ List.replicate (128 - last.length) (0 : UInt8)).length = 128 := by simp; omega
  obtain ⟨y, hcell⟩ : ∃ y, w3.cell? ⟨B6, last.length, none⟩ = some y := ⟨_, by rw [a6'.cell, cells_getElem _ _ (by omega)]⟩
  have hf := a6'.free last.length
  have a6s := a6'.set last.length (.int .u8 128)
  rw [show Value.int .u8 128 = .int .u8 ((128 : UInt8).toNat : Int) from rfl, cells_set] at a6s
  have K3s : Kept (fun _ => True) w (w3.setCell ⟨B6, last.length, none⟩ (.int .u8 ((128 : UInt8).toNat : Int))) := K03.then ((Kept.refl (· ≠ B6) w3).setCell (by simp) _) (fun i hi _ => by have := HB.out; omega)
  have a4s := a4w.kept ((Kept.refl (· ≠ B6) w3).setCell (ad := ⟨B6, last.length, none⟩) (by simp) (.int .u8 ((128 : UInt8).toNat : Int))) (by omega)
  have HA : Hid (Ar (w3.setCell ⟨B6, last.length, none⟩ (.int .u8 128)) B6 156 (cells ((last ++ List.replicate (128 - last.length) 0).set last.length 128)) ∧ Ar (w3.setCell ⟨B6, last.length, none⟩ (.int .u8 128)) B4 156 (cells (List.replicate 128 0)) ∧ Kept (fun _ => True) w (w3.setCell ⟨B6, last.length, none⟩ (.int .u8 128))) := ⟨a6s, a4s, K3s⟩
  have HP := pad_put last n hl
  have hll : (last.length : Int) < 64 := by omega
  clear a6' a6s a4w a4s K3s K03
  have pl : ((last ++ List.replicate (128 - last.length) 0).set last.length (128 : UInt8)).length = 128 := by rw [List.length_set, ll]
  generalize (last ++ List.replicate (128 - last.length) 0).set last.length (128 : UInt8) = E0 at *
  by_cases hbig : (64 : Int) < (last.length : Int) + 1 + 8
  · have hps : padSize last.length = 128 := by unfold padSize; rw [if_pos (by omega)]
    rw [hps] at HP
    have HS : Hid (padSize last.length = 128) := hps
    clear hps
    generalize hW4 : w3.setCell ⟨B6, last.length, none⟩ (.int .u8 128) = w4 at HA
    have c1 : Calls Try.prog 97 #[.slice (some ⟨B6, 120, none⟩) 8 8, .int .u32 ((n : Int) * 8 / 4294967296)] w4 fun e w' => e = .returned (.tuple #[]) ∧ Ar w' B6 156 (cells (putN E0 120 (8 * n / 4294967296) 4)) ∧ Kept (· ≠ B6) w4 w' ∧ w'.heap.size = w4.heap.size := by
      have := putWord_any (n := 8) (cap := 8) (o := 120) (8 * n / 4294967296) (by omega) HA.out.1 (by omega) (by omega)
      rwa [show ((8 * n / 4294967296 : Nat) : Int) = (n : Int) * 8 / 4294967296 by omega] at this
    go_wp2_with fail
    refine Calls.mono c1 ?_
    rintro e w5 ⟨rfl, a5, k5, s5⟩
    clear c1 hcell hf s5
    have c2 : Calls Try.prog 97 #[.slice (some ⟨B6, 124, none⟩) 4 4, .int .u32 ((n : Int) * 8 % 4294967296)] w5 fun e w' => e = .returned (.tuple #[]) ∧ Ar w' B6 156 (cells (putN (putN E0 120 (8 * n / 4294967296) 4) 124 (8 * n % 4294967296) 4)) ∧ Kept (· ≠ B6) w5 w' ∧ w'.heap.size = w5.heap.size := by
      have := putWord_any (n := 4) (cap := 4) (o := 124) (8 * n % 4294967296) (by omega) a5 (by rw [putN_length]; omega) (by omega)
      rwa [show ((8 * n % 4294967296 : Nat) : Int) = (n : Int) * 8 % 4294967296 by omega] at this
    go_wp2_with fail
    refine Calls.mono c2 ?_
    rintro e w6 ⟨rfl, a6, k6, s6⟩
    rw [HP] at a6
    have lp : (cells (padEnd last n)).length = 128 := by rw [← HP, cells_length, putN_length, putN_length, pl]
    have op := cells_one (padEnd last n)
    have a4x := (HA.out.2.1.kept k5 (by omega)).kept k6 (by omega)
    have K06 : Kept (fun _ => True) w w6 := (HA.out.2.2.then k5 (fun i hi _ => by have := HB.out; omega)).then k6 (fun i hi _ => by have := HB.out; omega)
    clear c2 a5 s6 HP HA k5 k6
    obtain ⟨xs, hxs⟩ : ∃ xs, xs = cells (padEnd last n) := ⟨_, rfl⟩
    rw [← hxs] at a6 lp op
    have HX : Hid (xs = cells (padEnd last n)) := hxs
    clear hxs
    go_wp2_with (first
      | ((with_reducible apply w_load (d := some 35) (b := B6) (xs := xs) arr128); (case hx => rfl); (case ha => exact a6); (case hl => exact lp))
      | ((with_reducible apply w_store (x := .tmp 4) (b := B4) (xs := xs) (old := cells (List.replicate 128 0)) arr128); (case hx => rfl); (case hy => rfl); (case ha => exact a4x); (case ho => simp [cells]); (case hl => exact lp); (case h1 => exact op); intro w9 a9 k9 s9))
    refine bodyPost_ret (results_ar2 (p := 4) (q := 5) arr128 rfl _ _ rfl a9 lp) rfl ⟨?_, K06.then k9 (fun i hi _ => by have := HB.out; omega)⟩
    rw [HX.out, HS.out]
    rfl
  · have hps : padSize last.length = 64 := by unfold padSize; rw [if_neg (by omega)]
    rw [hps] at HP
    have HS : Hid (padSize last.length = 64) := hps
    clear hps
    generalize hW4 : w3.setCell ⟨B6, last.length, none⟩ (.int .u8 128) = w4 at HA
    have c1 : Calls Try.prog 97 #[.slice (some ⟨B6, 56, none⟩) 72 72, .int .u32 ((n : Int) * 8 / 4294967296)] w4 fun e w' => e = .returned (.tuple #[]) ∧ Ar w' B6 156 (cells (putN E0 56 (8 * n / 4294967296) 4)) ∧ Kept (· ≠ B6) w4 w' ∧ w'.heap.size = w4.heap.size := by
      have := putWord_any (n := 72) (cap := 72) (o := 56) (8 * n / 4294967296) (by omega) HA.out.1 (by omega) (by omega)
      rwa [show ((8 * n / 4294967296 : Nat) : Int) = (n : Int) * 8 / 4294967296 by omega] at this
    go_wp2_with fail
    refine Calls.mono c1 ?_
    rintro e w5 ⟨rfl, a5, k5, s5⟩
    clear c1 hcell hf s5
    have c2 : Calls Try.prog 97 #[.slice (some ⟨B6, 60, none⟩) 68 68, .int .u32 ((n : Int) * 8 % 4294967296)] w5 fun e w' => e = .returned (.tuple #[]) ∧ Ar w' B6 156 (cells (putN (putN E0 56 (8 * n / 4294967296) 4) 60 (8 * n % 4294967296) 4)) ∧ Kept (· ≠ B6) w5 w' ∧ w'.heap.size = w5.heap.size := by
      have := putWord_any (n := 68) (cap := 68) (o := 60) (8 * n % 4294967296) (by omega) a5 (by rw [putN_length]; omega) (by omega)
      rwa [show ((8 * n % 4294967296 : Nat) : Int) = (n : Int) * 8 % 4294967296 by omega] at this
    go_wp2_with fail
    refine Calls.mono c2 ?_
    rintro e w6 ⟨rfl, a6, k6, s6⟩
    rw [HP] at a6
    have lp : (cells (padEnd last n)).length = 128 := by rw [← HP, cells_length, putN_length, putN_length, pl]
    have op := cells_one (padEnd last n)
    have a4x := (HA.out.2.1.kept k5 (by omega)).kept k6 (by omega)
    have K06 : Kept (fun _ => True) w w6 := (HA.out.2.2.then k5 (fun i hi _ => by have := HB.out; omega)).then k6 (fun i hi _ => by have := HB.out; omega)
    clear c2 a5 s6 HP HA k5 k6
    obtain ⟨xs, hxs⟩ : ∃ xs, xs = cells (padEnd last n) := ⟨_, rfl⟩
    rw [← hxs] at a6 lp op
    have HX : Hid (xs = cells (padEnd last n)) := hxs
    clear hxs
    go_wp2_with (first
      | ((with_reducible apply w_load (d := some 35) (b := B6) (xs := xs) arr128); (case hx => rfl); (case ha => exact a6); (case hl => exact lp))
      | ((with_reducible apply w_store (x := .tmp 4) (b := B4) (xs := xs) (old := cells (List.replicate 128 0)) arr128); (case hx => rfl); (case hy => rfl); (case ha => exact a4x); (case ho => simp [cells]); (case hl => exact lp); (case h1 => exact op); intro w9 a9 k9 s9))
    refine bodyPost_ret (results_ar2 (p := 4) (q := 5) arr128 rfl _ _ rfl a9 lp) rfl ⟨?_, K06.then k9 (fun i hi _ => by have := HB.out; omega)⟩
    rw [HX.out, HS.out]
    rfl

end Go.Proofs.Ytbooeabmpdpgpaa

namespace Go.Proofs.Ytbooeabmpdpgpaa
open Go.RowKit

set_option maxRecDepth 100000 in
/-- A slice from n on. -/
theorem cut_back (b o len cap n : Nat) (h : n ≤ len) (_hc : len ≤ cap) (hn : n < cap) (w0 : World) : (Instr.slice 25 (.slice (some ⟨b, o, none⟩) len cap) (some (.int .i64 (n : Int))) none none).run Try.prog w0 = .ok (.slice (some ⟨b, o + n, none⟩) (len - n) (cap - n)) w0 := by
  rw [run_slice_l (P := Try.prog) w0 25 (some ⟨b, o, none⟩) len cap Try.underlying25 .i64 n (by omega) (by omega), size_u8]
  have : ¬ cap = n := by omega
  simp [Result.andThen, sliced, this, Addr.add]
theorem has_drop {w : World} {b o : Nat} {bs : List UInt8} (h : ∀ j (hj : j < bs.length), w.cell? ⟨b, o + j, none⟩ = some (.int .u8 (bs[j]).toNat)) (n : Nat) : Has w (some ⟨b, o + n, none⟩) (bs.drop n) := by
  intro _
  refine ⟨_, rfl, fun j hj => ?_⟩
  rw [WideShapes.add_plain, Nat.add_assoc, h (n + j) (by simp at hj; omega)]
  simp
theorem has_of_plain {w : World} {b o : Nat} {bs : List UInt8} (h : ∀ j (hj : j < bs.length), w.cell? ⟨b, o + j, none⟩ = some (.int .u8 (bs[j]).toNat)) : Has w (some ⟨b, o, none⟩) bs := by
  intro _
  refine ⟨_, rfl, fun j hj => ?_⟩
  rw [WideShapes.add_plain, h j hj]

theorem wordAt_drop (bs : List UInt8) (n : Nat) : wordAt (bs.drop n) 0 = wordAt bs n := by simp [wordAt, List.getD]
theorem wordAt_lt (bs : List UInt8) (n : Nat) : wordAt bs n < 4294967296 := by
  unfold wordAt
  have h0 := (bs.getD n 0).toNat_lt
  have h1 := (bs.getD (n + 1) 0).toNat_lt
  have h2 := (bs.getD (n + 2) 0).toNat_lt
  have h3 := (bs.getD (n + 3) 0).toNat_lt
  omega
theorem wordsAt_succ (bs : List UInt8) (a k : Nat) : wordsAt bs a (k + 1) = wordsAt bs a k ++ [wordAt bs (a + 4 * k)] := by simp [wordsAt, List.range_succ]
theorem wordsAt_length (bs : List UInt8) (a k : Nat) : (wordsAt bs a k).length = k := by simp [wordsAt]
def below32 (ws : List Nat) : Prop := ∀ x ∈ ws, x < 4294967296
theorem wordsAt_lt (bs : List UInt8) (a k : Nat) : below32 (wordsAt bs a k) := by
  intro x hx
  obtain ⟨i, _, rfl⟩ := List.mem_map.1 hx
  exact wordAt_lt _ _
theorem sched_lt (k : Nat) (ws : List Nat) (h : below32 ws) : below32 (sched k ws) := by
  induction k with
  | zero => exact h
  | succ k ih =>
    intro x hx
    rcases List.mem_append.1 hx with hx | hx
    · exact ih x hx
    · rw [List.mem_singleton.1 hx]
      exact Nat.mod_lt _ (by decide)
/-- The next of a row of words that is filled up with noughts. -/
theorem fill_set (ws : List Nat) (n x : Nat) : (ws ++ List.replicate (n + 1) 0).set ws.length x = (ws ++ [x]) ++ List.replicate n 0 := by
  rw [List.set_append_right _ _ (Nat.le_refl _), Nat.sub_self, List.replicate_succ, List.set_cons_zero]
  simp
theorem fill_get (ws : List Nat) (n i : Nat) (h : i < ws.length) (h2 : i < (ws ++ List.replicate n 0).length) : (ws ++ List.replicate n 0)[i] = ws.getD i 0 := by
  rw [List.getElem_append_left h, getD_at ws h]
theorem zeros_w (n : Nat) : List.replicate n (Value.int .u32 0) = wcells (List.replicate n 0) := by simp [wcells]
theorem below_getD {ws : List Nat} (h : below32 ws) (i : Nat) : ws.getD i 0 < 4294967296 := by
  by_cases hi : i < ws.length
  · rw [getD_at ws hi]; exact h _ (List.getElem_mem hi)
  · have : ws.getD i 0 = 0 := by simp [List.getD, hi]
    omega

set_option maxRecDepth 100000 in
set_option maxHeartbeats 2000000 in
theorem schedule_any {w : World} {ao : Option Addr} {cap : Nat} {bs : List UInt8} (hh : Has w ao bs) (h4 : bs.length = 64) (hc : 64 ≤ cap) :
    Calls Try.prog 98 #[.slice ao 64 cap] w fun e w' => e = .returned (.agg (wcells (sched 48 (wordsAt bs 0 16))).toArray) ∧ Kept (fun _ => True) w w' := by
  obtain ⟨sb, so, rfl, hcs⟩ := has_plain hh (by omega)
  have hlt : sb < w.heap.size := World.block_lt_of_cell? w _ (hcs 0 (by omega))
  have HC : Hid (∀ j (hj : j < bs.length), w.cell? ⟨sb, so + j, none⟩ = some (.int .u8 (bs[j]).toNat)) := hcs
  clear hh hcs
  obtain ⟨W, hW⟩ : ∃ W, W = wordsAt bs 0 16 := ⟨_, rfl⟩
  have bW := wordsAt_lt bs 0 16
  have lW := wordsAt_length bs 0 16
  rw [← hW] at bW lW ⊢
  have HW : Hid (W = wordsAt bs 0 16) := hW
  clear hW
  go_enter Try.func98, Try.ntmps98
  go_wp2_with (first
    | (refine w_alloc (d := some 2) arr64 ?_; intro w1 a2 k1 s1)
    | (refine w_alloc (d := some 3) arr64 ?_; intro w2 a3 k2 s2))
  have a2' := a2.kept k2 trivial
  have k02 : Kept (fun _ => True) w w2 := k1.trans k2
  have hb1 : w.heap.size < w1.heap.size := by have := s1.out; omega
  have hb2 : w1.heap.size < w2.heap.size := by have := s2.out; omega
  rw [zeros_w] at a3
  generalize w1.heap.size = B at *
  clear a2 k1 k2 s1 s2
  go_loopw [10] (fun t wr => ∃ k : Nat, k ≤ 16 ∧ t = .int .i64 k ∧ Ar wr B 152 (wcells (wordsAt bs 0 k ++ List.replicate (64 - k) 0)) ∧ Kept (fun x => x ≠ B) w2 wr) (fun t _ => 16 - (intOf t).toNat)
  case atStart => exact ⟨0, by omega, rfl, by simpa [wordsAt] using a3, Kept.refl _ _⟩
  case round =>
    obtain ⟨k, hk, rfl, ar, kr⟩ := hrel
    by_cases hlk : k < 16
    · have hkl : (k : Int) < 16 := by omega
      have hk0 : (0 : Int) ≤ (k : Int) := by omega
      have hcut := cut_back sb so 64 cap (4 * k) (by omega) hc (by omega)
      rw [show ((4 * k : Nat) : Int) = 4 * (k : Int) by omega] at hcut
      have hcr : ∀ j (hj : j < bs.length), wr.cell? ⟨sb, so + j, none⟩ = some (.int .u8 (bs[j]).toNat) := fun j hj => (kept_cell kr (by omega) (by omega)).trans ((kept_cell k02 hlt trivial).trans (HC.out j hj))
      have cw := word_any (cap := cap - 4 * k) (has_drop hcr (4 * k)) (by simp; omega) (by simp; omega)
      rw [List.length_drop, h4, wordAt_drop] at cw
      have ll : (wordsAt bs 0 k ++ List.replicate (64 - k) 0).length = 64 := by simp [wordsAt_length]; omega
      have hcell := ar.cell k
      rw [wcells_get _ k (by omega)] at hcell
      have hf := ar.free k
      have HS : Hid (∀ u, Ar (wr.setCell ⟨B, k, none⟩ u) B 152 _) := fun u => ar.set k u
      have HE : Hid ((wordsAt bs 0 k ++ List.replicate (64 - k) 0).set k (wordAt bs (4 * k)) = wordsAt bs 0 (k + 1) ++ List.replicate (64 - (k + 1)) 0) := by
        have := fill_set (wordsAt bs 0 k) (63 - k) (wordAt bs (4 * k))
        rw [wordsAt_length, show 63 - k + 1 = 64 - k by omega] at this
        show _ = _
        rw [this, wordsAt_succ, Nat.zero_add, show 64 - (k + 1) = 63 - k by omega]
      generalize wordAt bs (4 * k) = x at *
      generalize (wordsAt bs 0 k ++ List.replicate (64 - k) 0)[k] = y at *
      clear hcr ar
      go_wp2_with fail
      refine Calls.mono cw ?_
      rintro e _ ⟨rfl, m, rfl⟩
      clear cw
      go_wp2
      go_roundw
      case rel =>
        refine ⟨k + 1, by omega, by go_num, ?_, ?_⟩
        · have := (HS.out (.int .u32 x))
          rw [wcells_set, HE.out] at this
          exact this
        · exact (kr.setCell (by simp) _).drewN m
      case measure => simp [intOf]; omega
    · have hkl : ¬ (k : Int) < 16 := by omega
      obtain rfl : k = 16 := by omega
      rw [← HW.out] at ar
      clear a3
      go_wp2
      go_loopw [5] (fun t v => ∃ j : Nat, j ≤ 48 ∧ t = .int .i64 ((16 + j : Nat) : Int) ∧ Ar v B 152 (wcells (sched j W ++ List.replicate (48 - j) 0)) ∧ Kept (fun x => x ≠ B) w2 v) (fun t _ => 64 - (intOf t).toNat)
      case atStart => exact ⟨0, by omega, rfl, ar, kr⟩
      case round =>
        clear ar kr
        obtain ⟨j, hj, rfl, ar, kr⟩ := hrel
        by_cases hlj : j < 48
        · have hjl : (16 : Int) + (j : Int) < 64 := by omega
          have hj0 : (0 : Int) ≤ (j : Int) := by omega
          have ls := sched_length j W
          have bs' := sched_lt j W bW
          have ll : (sched j W ++ List.replicate (48 - j) 0).length = 64 := by simp [ls]; omega
          have c1 := ar.word (1 + j) (by omega)
          have c2 := ar.word (14 + j) (by omega)
          have c3 := ar.word (9 + j) (by omega)
          have c4 := ar.word j (by omega)
          have c5 := ar.word (16 + j) (by omega)
          rw [fill_get _ _ _ (by omega)] at c1 c2 c3 c4
          have b1 := below_getD bs' (1 + j)
          have b2 := below_getD bs' (14 + j)
          have b3 := below_getD bs' (9 + j)
          have b4 := below_getD bs' j
          have hf := ar.free (16 + j)
          have hn : nextWord (sched j W) = ((sched j W).getD j 0 + ssig0 ((sched j W).getD (1 + j) 0) + (sched j W).getD (9 + j) 0 + ssig1 ((sched j W).getD (14 + j) 0)) % 4294967296 := by
            unfold nextWord
            rw [ls, lW, show 16 + j - 16 = j by omega, show 16 + j - 15 = 1 + j by omega, show 16 + j - 7 = 9 + j by omega, show 16 + j - 2 = 14 + j by omega]
          have HS : Hid (∀ u, Ar (wr.setCell ⟨B, 16 + j, none⟩ u) B 152 _) := fun u => ar.set (16 + j) u
          have HE : Hid ((sched j W ++ List.replicate (48 - j) 0).set (16 + j) (nextWord (sched j W)) = sched (j + 1) W ++ List.replicate (48 - (j + 1)) 0) := by
            have := fill_set (sched j W) (47 - j) (nextWord (sched j W))
            rw [ls, lW, show 47 - j + 1 = 48 - j by omega] at this
            show _ = _
            rw [this, show 48 - (j + 1) = 47 - j by omega]
            rfl
          generalize nextWord (sched j W) = nw at *
          generalize (sched j W).getD j 0 = x4 at *
          generalize (sched j W).getD (1 + j) 0 = x1 at *
          generalize (sched j W).getD (9 + j) 0 = x3 at *
          generalize (sched j W).getD (14 + j) 0 = x2 at *
          generalize (sched j W ++ List.replicate (48 - j) 0)[16 + j] = x5 at *
          have e1 : (16 : Int) + (j : Int) - 15 = ((1 + j : Nat) : Int) := by omega
          have e2 : (16 : Int) + (j : Int) - 2 = ((14 + j : Nat) : Int) := by omega
          have e3 : (16 : Int) + (j : Int) - 7 = ((9 + j : Nat) : Int) := by omega
          have e4 : (16 : Int) + (j : Int) - 16 = ((j : Nat) : Int) := by omega
          clear ar bs' ll
          go_wp2
          go_quiet (fail)
          have t1 : ∀ v, Calls Try.prog 101 #[.int .u32 x1, .int .i64 7] v fun e w' => e = .returned (.int .u32 (rotr x1 7 : Nat)) ∧ w' = v := fun v => turn_any x1 7 b1 (by decide) (by decide)
          have t2 : ∀ v, Calls Try.prog 101 #[.int .u32 x1, .int .i64 18] v fun e w' => e = .returned (.int .u32 (rotr x1 18 : Nat)) ∧ w' = v := fun v => turn_any x1 18 b1 (by decide) (by decide)
          have t3 : ∀ v, Calls Try.prog 101 #[.int .u32 x2, .int .i64 17] v fun e w' => e = .returned (.int .u32 (rotr x2 17 : Nat)) ∧ w' = v := fun v => turn_any x2 17 b2 (by decide) (by decide)
          have t4 : ∀ v, Calls Try.prog 101 #[.int .u32 x2, .int .i64 19] v fun e w' => e = .returned (.int .u32 (rotr x2 19 : Nat)) ∧ w' = v := fun v => turn_any x2 19 b2 (by decide) (by decide)
          have q1 := xor_bits (rotr x1 7) (rotr x1 18) (rotr_lt _ _ b1) (rotr_lt _ _ b1)
          have q2 : bits BinOp.xor .u32 ((rotr x1 7 ^^^ rotr x1 18 : Nat) : Int) ((x1 : Int) / 8) = ((ssig0 x1 : Nat) : Int) := xor_bits (rotr x1 7 ^^^ rotr x1 18) (x1 / 8) (xor_lt32 (rotr_lt _ _ b1) (rotr_lt _ _ b1)) (div_lt32 _ b1)
          have q3 := xor_bits (rotr x2 17) (rotr x2 19) (rotr_lt _ _ b2) (rotr_lt _ _ b2)
          have q4 : bits BinOp.xor .u32 ((rotr x2 17 ^^^ rotr x2 19 : Nat) : Int) ((x2 : Int) / 1024) = ((ssig1 x2 : Nat) : Int) := xor_bits (rotr x2 17 ^^^ rotr x2 19) (x2 / 1024) (xor_lt32 (rotr_lt _ _ b2) (rotr_lt _ _ b2)) (div_lt32 _ b2)
          have p1 := ssig0_lt x1 b1
          have p2 := ssig1_lt x2 b2
          generalize rotr x1 7 = r1 at *
          generalize rotr x1 18 = r2 at *
          generalize rotr x2 17 = r3 at *
          generalize rotr x2 19 = r4 at *
          generalize ssig0 x1 = lo at *
          generalize ssig1 x2 = hi at *
          go_wp2_with fail
          refine Calls.mono (t1 _) ?_
          rintro e _ ⟨rfl, rfl⟩
          go_wp2_with fail
          refine Calls.mono (t2 _) ?_
          rintro e _ ⟨rfl, rfl⟩
          go_wp2_with fail
          refine Calls.mono (t3 _) ?_
          rintro e _ ⟨rfl, rfl⟩
          go_wp2_with fail
          refine Calls.mono (t4 _) ?_
          rintro e _ ⟨rfl, rfl⟩
          clear t1 t2 t3 t4
          have hv : ((hi : Int) + (x3 : Int) + (lo : Int) + (x4 : Int)) % 4294967296 = ((nw : Nat) : Int) := by omega
          clear hn
          go_wp2
          go_region
          all_goals
            go_wp2
            go_roundw
            case rel =>
              refine ⟨j + 1, by omega, by go_num, ?_, ?_⟩
              · have := HS.out (.int .u32 nw)
                rw [wcells_set, HE.out] at this
                exact this
              · exact (kr.drewN (nq + 1)).setCell (by simp) _
            case measure => simp [intOf]; omega
        · have hjl : ¬ (16 : Int) + (j : Int) < 64 := by omega
          obtain rfl : j = 48 := by omega
          rw [Nat.sub_self, List.replicate_zero, List.append_nil] at ar
          have ls : (wcells (sched 48 W)).length = 64 := by rw [wcells_length, sched_length, lW]
          have h1 := wcells_one (sched 48 W)
          have a2w := a2'.kept kr (by omega)
          obtain ⟨xs, hxs⟩ : ∃ xs, xs = wcells (sched 48 W) := ⟨_, rfl⟩
          rw [← hxs] at ar ls h1
          have HX : Hid (xs = wcells (sched 48 W)) := hxs
          clear hxs
          go_wp2_with (first
            | (refine w_load (d := some 64) arr64 rfl ar ls ?_)
            | (refine w_store (x := .tmp 2) arr64 rfl rfl a2w (by simp) ls h1 ?_; intro w5 a5 k5 s5))
          refine bodyPost_ret (results_ar (p := 2) arr64 rfl _ _ rfl a5 ls) rfl ⟨by rw [HX.out], ?_⟩
          exact (k02.then kr (fun i hi _ => by omega)).then k5 (fun i hi _ => by omega)

end Go.Proofs.Ytbooeabmpdpgpaa

namespace Go.Proofs.Ytbooeabmpdpgpaa
open Go.RowKit

/-- An array of constants is built. -/
theorem w_build {ops : Array Oper} {rest : List Oper} {a : Act} {w : World} {Q : Exit → Act → World → Prop} {d : Option Nat} {ty : TypeId} {p : String} {af : Array Edge} {parts : Array (Nat × Operand)} (ws : List Nat)
    (hl : ws.length = 64) (hparts : parts.toList = ((ws.map fun (n : Nat) => (n : Int)).zipIdx 0).map fun x => (x.2, Operand.const (Value.int .u32 x.1)))
    (h : wpList Try.prog ops Q rest (a.put d (.agg (wcells ws).toArray)) w) :
    wpList Try.prog ops Q (⟨d, .build 152 parts, ty, p, af, none⟩ :: rest) a w := by
  refine wpList_buildFlatArrTo (P := Try.prog) rfl 152 150 64 parts rfl .u32 (ws.map fun (n : Nat) => (n : Int)) d rfl Try.underlying152 (by kernel_rfl) ?_ hparts ?_
  · rw [List.length_map, hl]
    kernel_rfl
  · simpa [wcells, Function.comp_def] using h

theorem Try.info32 : (Try.prog.info? 150).map (fun i => (i.zero, i.size)) = some (some (.int .u32 0), 1) := by kernel_rfl
/-- A word of an array that is held as a value. -/
theorem index_words (ks : List Nat) (t n : Nat) (hu : Try.prog.underlying t = some (.array n 150)) (k : Nat) (hk : k < n) (hl : ks.length = n) (w0 : World) : (Instr.index t (.agg (wcells ks).toArray) (.int .i64 (k : Int))).run Try.prog w0 = .ok (.int .u32 (ks.getD k 0 : Nat)) w0 := by
  have hz : ∀ w, (sizeOf 150).run Try.prog w = .ok 1 w := fun w => by
    cases hq : Try.prog.info? 150 with
    | none => have := (zero_of_info Try.info32).2; simp [hq] at this
    | some i => have := (zero_of_info Try.info32).2; simp [hq] at this; simp [sizeOf, typeInfo, hq, this]
  have hc : (wcells ks).toArray[k]? = some (.int .u32 (ks.getD k 0 : Nat)) := by
    rw [getD_at ks (by omega)]
    simpa using wcells_get ks k (by omega)
  have h0 : (0 : Int) ≤ (k : Int) ∧ (k : Int) < (n : Int) := by omega
  simp only [Instr.index, asIntOf, Sem.run_bind, Sem.run_pure, Result.andThen_ok, run_underlying hu, if_pos h0, hz, part, isAgg, run_underlying Try.underlying150]
  simp [hc]

theorem kOf_length : kOf.length = 64 := by kernel_rfl
theorem kOf_lt : below32 kOf := by
  intro x hx
  have : ∀ y ∈ kOf, y < 4294967296 := by decide +kernel
  exact this x hx

theorem not_eq (e : Nat) (h : e < 4294967296) : 4294967295 ^^^ e = 4294967295 - e := by
  have := congrArg BitVec.toNat (BitVec.xor_allOnes (x := BitVec.ofNat 32 e))
  rw [BitVec.toNat_xor, BitVec.toNat_not, BitVec.toNat_allOnes, BitVec.toNat_ofNat, Nat.mod_eq_of_lt h, Nat.xor_comm] at this
  exact this
theorem not_bits (e : Nat) (h : e < 4294967296) : bits BinOp.xor .u32 IntKind.u32.max (e : Int) = ((4294967295 - e : Nat) : Int) := by
  have := xor_bits 4294967295 e (by decide) h
  rw [not_eq e h] at this
  exact this

theorem half_set (X Y : List Nat) (i : Nat) (hX : i < X.length) (hl : X.length = Y.length) : (X.take i ++ Y.drop i).set i (X.getD i 0) = X.take (i + 1) ++ Y.drop (i + 1) := by
  have lt : (X.take i).length = i := by simp; omega
  rw [getD_at X hX, List.set_append_right _ _ (by omega), lt, Nat.sub_self, List.drop_eq_getElem_cons (by omega), List.set_cons_zero, List.take_succ_eq_append_getElem hX, List.append_assoc]
  rfl
theorem half_get (X Y : List Nat) (i : Nat) (hX : i < X.length) (hl : X.length = Y.length) : (wcells (X.take i ++ Y.drop i))[i]? = some (.int .u32 (Y.getD i 0 : Nat)) := by
  have lt : (X.take i).length = i := by simp; omega
  rw [wcells_get _ i (by simp; omega), List.getElem_append_right (by omega), getD_at Y (by omega)]
  simp [lt]
theorem add_words (v u : H8) (i : Nat) (hi : i < 8) : (v.add u).words.getD i 0 = (v.words.getD i 0 + u.words.getD i 0) % 4294967296 := by
  match i, hi with
  | 0, _ => rfl
  | 1, _ => rfl
  | 2, _ => rfl
  | 3, _ => rfl
  | 4, _ => rfl
  | 5, _ => rfl
  | 6, _ => rfl
  | 7, _ => rfl

/-- The constants in a variable: what is known of them, the numbers out of sight. -/
theorem ks_any : ∃ ks : List Nat, Hid (ks = kOf) ∧ ks.length = 64 ∧ (wcells ks).length = 64 ∧ (∀ u ∈ wcells ks, u.oneCell' = true) ∧ Hid (below32 ks) := ⟨kOf, rfl, kOf_length, by rw [wcells_length]; exact kOf_length, wcells_one kOf, kOf_lt⟩

set_option maxRecDepth 100000 in
set_option maxHeartbeats 400000 in
theorem mix_any {w : World} {ao : Option Addr} {cap : Nat} {bs : List UInt8} (v : H8) (hv : v.ok) (hh : Has w ao bs) (h4 : bs.length = 64) (hc : 64 ≤ cap) :
    Calls Try.prog 95 #[.agg (wcells v.words).toArray, .slice ao 64 cap] w fun e w' => e = .returned (.agg (wcells (v.block bs 0).words).toArray) ∧ Kept (fun _ => True) w w' := by
  have HH : Hid (Has w ao bs) := hh
  clear hh
  obtain ⟨ws, hws⟩ : ∃ ws, ws = sched 48 (wordsAt bs 0 16) := ⟨_, rfl⟩
  have lw : ws.length = 64 := by rw [hws, sched_length, wordsAt_length]
  have bw : below32 ws := by rw [hws]; exact sched_lt _ _ (wordsAt_lt _ _ _)
  have HR : Hid (v.block bs 0 = v.add (v.rounds ws 64)) := by show _ = _; rw [hws]; rfl
  have hsch : ∀ w0, Has w0 ao bs → Calls Try.prog 98 #[.slice ao 64 cap] w0 fun e w' => e = .returned (.agg (wcells ws).toArray) ∧ Kept (fun _ => True) w0 w' := fun w0 h => by rw [hws]; exact schedule_any h h4 hc
  clear hws
  have lws : (wcells ws).length = 64 := by rw [wcells_length, lw]
  have ows := wcells_one ws
  have HV : Hid v.ok := hv
  clear hv
  obtain ⟨ks, HK, lk, lk', ok, bk⟩ := ks_any
  go_enter Try.func95, Try.ntmps95
  go_wp2_with (first
    | ((with_reducible refine w_box (d := some 2) (wcells v.words) ?hx ?hn); (case hx => rfl); intro w1 a2 k1 s1)
    | ((with_reducible refine w_alloc (d := some 4) arr8 ?_); intro w2 a4 k2 s2)
    | (with_reducible refine w_build ks lk (by rw [HK.out]; kernel_rfl) ?_)
    | ((with_reducible refine w_alloc (d := some 5) arr64 ?_); intro w3 a5 k3 s3)
    | ((with_reducible apply w_store (x := .tmp 5) (b := w2.heap.size) (xs := wcells ks) (old := List.replicate 64 (.int .u32 0)) arr64); (case hx => rfl); (case hy => rfl); (case ha => exact a5); (case ho => simp); (case hl => exact lk'); (case h1 => exact ok); intro w4 a5' k4 s4)
    | (go_at_call 98; refine Calls.mono (hsch _ (HH.out.kept (((k1.trans k2).trans k3).then k4 (fun i hi _ => by have := s1.out; have := s2.out; omega)) (fun _ _ => trivial))) ?_; rintro e w5 ⟨rfl, k5⟩)
    | ((with_reducible refine w_alloc (d := some 6) arr64 ?_); intro w6 a6 k6 s6)
    | ((with_reducible apply w_store (x := .tmp 6) (b := w5.heap.size) (xs := wcells ws) (old := List.replicate 64 (.int .u32 0)) arr64); (case hx => rfl); (case hy => rfl); (case ha => exact a6); (case ho => simp); (case hl => exact lws); (case h1 => exact ows); intro w7 a6' k7 s7))
  have q1 := s1.out
  have q2 := s2.out
  have q3 := s3.out
  have q4 := s4.out
  have q6 := s6.out
  have q7 := s7.out
  have z5 := k5.size
  have k14 : Kept (· ≠ w2.heap.size) w1 w4 := (((k2.trans k3).mono (fun _ _ _ => trivial)).trans k4)
  have k47 : Kept (· ≠ w5.heap.size) w4 w7 := (((k5.trans k6).mono (fun _ _ _ => trivial)).trans k7)
  have A2 : Ar w7 w.heap.size 151 (wcells v.words) := (a2.kept k14 (by omega)).kept k47 (by omega)
  have A4 : Ar w7 w1.heap.size 151 (List.replicate 8 (.int .u32 0)) := ((a4.kept (k3.mono (q := (· ≠ w2.heap.size)) (fun _ _ _ => trivial)) (by omega)).kept k4 (by omega)).kept k47 (by omega)
  have A5 : Ar w7 w2.heap.size 152 (wcells ks) := a5'.kept k47 (by omega)
  have K07 : Kept (fun _ => True) w w7 := (k1.then k14 (fun i hi _ => by omega)).then k47 (fun i hi _ => by omega)
  have d1 : w.heap.size < w1.heap.size := by omega
  have d2 : w1.heap.size < w2.heap.size := by omega
  have d3 : w2.heap.size < w5.heap.size := by omega
  have d4 : w5.heap.size < w7.heap.size := by omega
  clear q1 q2 q3 q4 q6 q7 z5 k14 k47 s1 s2 s3 s4 s6 s7 k1 k2 k3 k4 k5 k6 k7 a2 a4 a5 a5' a6
  generalize w1.heap.size = B4 at *
  generalize w2.heap.size = B5 at *
  generalize w5.heap.size = B6 at *
  obtain ⟨B2, hB2⟩ : ∃ B, B = w.heap.size := ⟨_, rfl⟩
  rw [← hB2] at A2 d1
  rw [← hB2]
  have HB2 : Hid (B2 = w.heap.size) := hB2
  clear hB2
  have c0 : w7.cell? ⟨B2, 0, none⟩ = some (.int .u32 (v.a : Nat)) := A2.word 0 (by simp [H8.words])
  have c1 : w7.cell? ⟨B2, 1, none⟩ = some (.int .u32 (v.b : Nat)) := A2.word 1 (by simp [H8.words])
  have c2 : w7.cell? ⟨B2, 2, none⟩ = some (.int .u32 (v.c : Nat)) := A2.word 2 (by simp [H8.words])
  have c3 : w7.cell? ⟨B2, 3, none⟩ = some (.int .u32 (v.d : Nat)) := A2.word 3 (by simp [H8.words])
  have c4 : w7.cell? ⟨B2, 4, none⟩ = some (.int .u32 (v.e : Nat)) := A2.word 4 (by simp [H8.words])
  have c5 : w7.cell? ⟨B2, 5, none⟩ = some (.int .u32 (v.f : Nat)) := A2.word 5 (by simp [H8.words])
  have c6 : w7.cell? ⟨B2, 6, none⟩ = some (.int .u32 (v.g : Nat)) := A2.word 6 (by simp [H8.words])
  have c7 : w7.cell? ⟨B2, 7, none⟩ = some (.int .u32 (v.h : Nat)) := A2.word 7 (by simp [H8.words])
  go_quiet (fail)
  go_wp2
  go_quiet (fail)
  clear c0 c1 c2 c3 c4 c5 c6 c7
  go_wp2_with ((with_reducible apply w_load (d := some 40) (b := B5) (xs := wcells ks) arr64); (case hx => rfl); (case ha => exact A5); (case hl => exact lk'))
  go_loopw [41, 7, 8, 9, 10, 11, 12, 13, 14] (fun t xa xb xc xd xe xf xg xh wr => ∃ k : Nat, k ≤ 64 ∧ t = .int .i64 k ∧ xa = .int .u32 ((v.rounds ws k).a : Nat) ∧ xb = .int .u32 ((v.rounds ws k).b : Nat) ∧ xc = .int .u32 ((v.rounds ws k).c : Nat) ∧ xd = .int .u32 ((v.rounds ws k).d : Nat) ∧ xe = .int .u32 ((v.rounds ws k).e : Nat) ∧ xf = .int .u32 ((v.rounds ws k).f : Nat) ∧ xg = .int .u32 ((v.rounds ws k).g : Nat) ∧ xh = .int .u32 ((v.rounds ws k).h : Nat) ∧ Kept (fun _ => True) w7 wr)
    (fun t _ _ _ _ _ _ _ _ _ => 64 - (intOf t).toNat)
  case atStart => exact ⟨0, by omega, rfl, rfl, rfl, rfl, rfl, rfl, rfl, rfl, rfl, (Kept.refl _ _).drewN _⟩
  case round =>
    obtain ⟨k, hk, rfl, rfl, rfl, rfl, rfl, rfl, rfl, rfl, rfl, kr⟩ := hrel
    by_cases hlk : k < 64
    · have hkl : (k : Int) < 64 := by omega
      have hk0 : (0 : Int) ≤ (k : Int) := by omega
      have uok : (v.rounds ws k).ok := H8.rounds_ok v ws k HV.out
      have HS : Hid (v.rounds ws (k + 1) = (v.rounds ws k).round (ks.getD k 0) (ws.getD k 0)) := by show _ = _; rw [HK.out]; rfl
      have cw : wr.cell? ⟨B6, k, none⟩ = some (.int .u32 (ws.getD k 0 : Nat)) := by
        rw [getD_at ws (by omega)]
        exact (kept_cell kr d4 trivial).trans (a6'.word k (by omega))
      have bw' := below_getD bw k
      have bk' := below_getD bk.out k
      obtain ⟨ua, ub, uc, ud, ue, uf, ug, uh⟩ := uok
      generalize v.rounds ws k = u at *
      generalize ws.getD k 0 = wk at *
      have hix : ∀ w0, (Instr.index 152 (.agg (wcells ks).toArray) (.int .i64 (k : Int))).run Try.prog w0 = .ok (.int .u32 (ks.getD k 0 : Nat)) w0 := fun w0 => index_words ks 152 64 Try.underlying152 k hlk lk w0
      generalize ks.getD k 0 = kk at *
      have te : ∀ w0, Calls Try.prog 99 #[.int .u32 (u.e : Nat), .int .i64 6, .int .i64 11, .int .i64 25] w0 fun e w' => e = .returned (.int .u32 (bsig1 u.e : Nat)) ∧ w' = w0 := fun w0 => turns_any u.e 6 11 25 ue (by decide) (by decide) (by decide)
      have ta : ∀ w0, Calls Try.prog 99 #[.int .u32 (u.a : Nat), .int .i64 2, .int .i64 13, .int .i64 22] w0 fun e w' => e = .returned (.int .u32 (bsig0 u.a : Nat)) ∧ w' = w0 := fun w0 => turns_any u.a 2 13 22 ua (by decide) (by decide) (by decide)
      have f1 := and_bits u.e u.f ue uf
      have f2 := not_bits u.e ue
      have f3 := and_bits (4294967295 - u.e) u.g (by omega) ug
      have f4 : bits BinOp.xor .u32 ((u.e &&& u.f : Nat) : Int) (((4294967295 - u.e) &&& u.g : Nat) : Int) = ((ch u.e u.f u.g : Nat) : Int) := xor_bits _ _ (and_lt32 uf) (and_lt32 ug)
      have g1 := and_bits u.a u.b ua ub
      have g2 := and_bits u.a u.c ua uc
      have g3 := and_bits u.b u.c ub uc
      have g4 := xor_bits (u.a &&& u.b) (u.a &&& u.c) (and_lt32 ub) (and_lt32 uc)
      have g5 : bits BinOp.xor .u32 (((u.a &&& u.b) ^^^ (u.a &&& u.c) : Nat) : Int) ((u.b &&& u.c : Nat) : Int) = ((maj u.a u.b u.c : Nat) : Int) := xor_bits _ _ (xor_lt32 (and_lt32 ub) (and_lt32 uc)) (and_lt32 uc)
      have b1 := bsig1_lt u.e ue
      have b2 := bsig0_lt u.a ua
      have b3 := ch_lt u.e u.f u.g uf ug
      have b4 := maj_lt u.a u.b u.c ub uc
      have HT : Hid ((u.round kk wk).a = ((u.h + bsig1 u.e + ch u.e u.f u.g + kk + wk) % 4294967296 + bsig0 u.a + maj u.a u.b u.c) % 4294967296 ∧ (u.round kk wk).e = (u.d + (u.h + bsig1 u.e + ch u.e u.f u.g + kk + wk) % 4294967296) % 4294967296) := ⟨rfl, rfl⟩
      have HU : Hid ((u.round kk wk).b = u.a ∧ (u.round kk wk).c = u.b ∧ (u.round kk wk).d = u.c ∧ (u.round kk wk).f = u.e ∧ (u.round kk wk).g = u.f ∧ (u.round kk wk).h = u.g) := ⟨rfl, rfl, rfl, rfl, rfl, rfl⟩
      generalize bsig1 u.e = r1 at *
      generalize bsig0 u.a = r2 at *
      generalize ch u.e u.f u.g = r3 at *
      generalize maj u.a u.b u.c = r4 at *
      go_wp2
      go_quiet (exact Calls.quiet_of_same (te _))
      go_wp2_with fail
      refine Calls.mono (ta _) ?_
      rintro e _ ⟨rfl, rfl⟩
      go_wp2
      go_roundw
      case rel =>
        refine ⟨k + 1, by omega, by go_num, ?_, ?_, ?_, ?_, ?_, ?_, ?_, ?_, kr.drewN nq⟩ <;> rw [HS.out]
        · exact congrArg (Value.int .u32) (by rw [HT.out.1]; omega)
        · rw [HU.out.1]
        · rw [HU.out.2.1]
        · rw [HU.out.2.2.1]
        · exact congrArg (Value.int .u32) (by rw [HT.out.2]; omega)
        · rw [HU.out.2.2.2.1]
        · rw [HU.out.2.2.2.2.1]
        · rw [HU.out.2.2.2.2.2]
      case measure => simp [intOf]; omega
    · have hkl : ¬ (k : Int) < 64 := by omega
      obtain rfl : k = 64 := by omega
      have HR2 := HR.out
      obtain ⟨u, hu⟩ : ∃ u, u = v.rounds ws 64 := ⟨_, rfl⟩
      have HQ : Hid (v.block bs 0 = v.add u) := by show _ = _; rw [hu]; exact HR2
      rw [← hu]
      clear hu HR2 HR hsch A5 a6' lws ows lw bw
      have hix : ∀ (i : Nat), i < 8 → ∀ w0, (Instr.index 151 (.agg #[.int .u32 (u.a : Nat), .int .u32 (u.b : Nat), .int .u32 (u.c : Nat), .int .u32 (u.d : Nat), .int .u32 (u.e : Nat), .int .u32 (u.f : Nat), .int .u32 (u.g : Nat), .int .u32 (u.h : Nat)]) (.int .i64 (i : Int))).run Try.prog w0 = .ok (.int .u32 (u.words.getD i 0 : Nat)) w0 := fun i hi w0 => index_words u.words 151 8 Try.underlying151 i hi rfl w0
      have A2w : Ar wr B2 151 (wcells v.words) := A2.kept kr trivial
      have A4w : Ar wr B4 151 (List.replicate 8 (.int .u32 0)) := A4.kept kr trivial
      go_wp2
      go_loopw [100] (fun t x => ∃ i : Nat, i ≤ 8 ∧ t = .int .i64 i ∧ Ar x B2 151 (wcells ((v.add u).words.take i ++ v.words.drop i)) ∧ Kept (· ≠ B2) wr x) (fun t _ => 8 - (intOf t).toNat)
      case atStart => exact ⟨0, by omega, rfl, by simpa using A2w, Kept.refl _ _⟩
      case round =>
        obtain ⟨i, hi, rfl, ar, kx⟩ := hrel
        have ll : (v.add u).words.length = v.words.length := rfl
        have l8 : (v.add u).words.length = 8 := rfl
        by_cases hli : i < 8
        · have hil : (i : Int) < 8 := by omega
          have hi0 : (0 : Int) ≤ (i : Int) := by omega
          have hixi := hix i hli
          have hcell := (ar.cell i).trans (half_get _ _ i (by omega) ll)
          have hf := ar.free i
          have HS : Hid (∀ x, Ar (wr.setCell ⟨B2, i, none⟩ x) B2 151 _) := fun x => ar.set i x
          have HE : Hid (((v.add u).words.take i ++ v.words.drop i).set i ((v.add u).words.getD i 0) = (v.add u).words.take (i + 1) ++ v.words.drop (i + 1)) := half_set _ _ i (by omega) ll
          have hv := add_words v u i hli
          generalize (v.add u).words.getD i 0 = nw at *
          generalize v.words.getD i 0 = x1 at *
          generalize u.words.getD i 0 = x2 at *
          have hv2 : ((x1 : Int) + (x2 : Int)) % 4294967296 = ((nw : Nat) : Int) := by omega
          clear hix ar hv
          go_wp2
          go_roundw
          case rel =>
            refine ⟨i + 1, by omega, by go_num, ?_, kx.setCell (by simp) _⟩
            have := HS.out (.int .u32 nw)
            rw [wcells_set, HE.out] at this
            exact this
          case measure => simp [intOf]; omega
        · have hil : ¬ (i : Int) < 8 := by omega
          obtain rfl : i = 8 := by omega
          rw [List.take_of_length_le (by omega), List.drop_eq_nil_of_le (by omega), List.append_nil] at ar
          have A4x := A4w.kept kx (by omega)
          obtain ⟨xs, hxs⟩ : ∃ xs, xs = wcells (v.add u).words := ⟨_, rfl⟩
          have lx : xs.length = 8 := by rw [hxs, wcells_length]; rfl
          have ox : ∀ x ∈ xs, x.oneCell' = true := by rw [hxs]; exact wcells_one _
          rw [← hxs] at ar
          have HX : Hid (xs = wcells (v.add u).words) := hxs
          clear hxs hix ll l8
          go_wp2_with (first
            | ((with_reducible apply w_load (d := some 111) (b := B2) (xs := xs) arr8); (case hx => rfl); (case ha => exact ar); (case hl => exact lx))
            | ((with_reducible apply w_store (x := .tmp 4) (b := B4) (xs := xs) (old := List.replicate 8 (.int .u32 0)) arr8); (case hx => rfl); (case hy => rfl); (case ha => exact A4x); (case ho => simp); (case hl => exact lx); (case h1 => exact ox); intro w9 a9 k9 s9))
          refine bodyPost_ret (results_ar (p := 4) arr8 rfl _ _ rfl a9 lx) rfl ⟨by rw [HX.out, HQ.out], ?_⟩
          have h2 := HB2.out
          exact ((K07.trans kr).then kx (fun i hi _ => by omega)).then k9 (fun i hi _ => by omega)

end Go.Proofs.Ytbooeabmpdpgpaa

namespace Go.Proofs.Ytbooeabmpdpgpaa

theorem getD_cut (m : List UInt8) (a j : Nat) (hj : j < 64) : ((m.drop a).take 64).getD j 0 = m.getD (a + j) 0 := by
  simp [List.getD, hj]
theorem wordAt_cut (m : List UInt8) (a i : Nat) (hi : i < 16) : wordAt ((m.drop a).take 64) (4 * i) = wordAt m (a + 4 * i) := by
  unfold wordAt
  rw [getD_cut m a _ (by omega), getD_cut m a _ (by omega), getD_cut m a _ (by omega), getD_cut m a _ (by omega)]
  simp only [Nat.add_assoc]
theorem wordsAt_cut (m : List UInt8) (a : Nat) : wordsAt ((m.drop a).take 64) 0 16 = wordsAt m a 16 := by
  unfold wordsAt
  apply List.map_congr_left
  intro i hi
  rw [List.mem_range] at hi
  rw [Nat.zero_add]
  exact wordAt_cut m a i hi
theorem block_cut (v : H8) (m : List UInt8) (a : Nat) : v.block ((m.drop a).take 64) 0 = v.block m a := by
  unfold H8.block
  rw [wordsAt_cut]

theorem padded_split (b : List UInt8) : padded b = b.take (64 * (b.length / 64)) ++ (padEnd (b.drop (64 * (b.length / 64))) b.length).take (padSize (b.length % 64)) := by
  have hl : (b.drop (64 * (b.length / 64))).length = b.length % 64 := by simp; omega
  have hr : b.length % 64 < 64 := Nat.mod_lt _ (by decide)
  unfold padEnd
  rw [hl]
  have hs : padSize (b.length % 64) = 64 ∧ b.length % 64 + 9 ≤ 64 ∨ padSize (b.length % 64) = 128 ∧ 64 < b.length % 64 + 9 := by
    unfold padSize; split <;> omega
  have hz : padSize (b.length % 64) - b.length % 64 - 9 = padZeros b.length := by unfold padZeros; omega
  rw [hz]
  have ll : (b.drop (64 * (b.length / 64)) ++ [128] ++ List.replicate (padZeros b.length) 0 ++ bytesOf (8 * b.length) 8).length = padSize (b.length % 64) := by
    simp only [List.length_append, hl, List.length_cons, List.length_nil, List.length_replicate, bytesOf_length]
    omega
  rw [List.take_left' ll]
  unfold padded
  have hb : b = b.take (64 * (b.length / 64)) ++ b.drop (64 * (b.length / 64)) := (List.take_append_drop _ _).symm
  have ha : ∀ x y : List UInt8, b.take (64 * (b.length / 64)) ++ (b.drop (64 * (b.length / 64)) ++ [128] ++ x ++ y) = b ++ [128] ++ x ++ y := fun x y => by
    rw [← List.append_assoc, ← List.append_assoc, ← List.append_assoc, ← hb]
  rw [ha]
theorem padEnd_length (last : List UInt8) (n : Nat) (h : last.length < 64) : (padEnd last n).length = 128 := by
  rw [← pad_put last n h, putN_length, putN_length, List.length_set]
  simp; omega
/-- A block of the message itself. -/
theorem cut_front64 (b : List UInt8) (k : Nat) (h : k < b.length / 64) : ((padded b).drop (64 * k)).take 64 = (b.drop (64 * k)).take 64 := by
  unfold padded
  rw [List.append_assoc, List.append_assoc, List.drop_append_of_le_length (by omega), List.take_append_of_le_length (by simp; omega)]
/-- A block of its padded end. -/
theorem cut_end64 (b : List UInt8) (j : Nat) (h : 64 * j + 64 ≤ padSize (b.length % 64)) : ((padded b).drop (64 * (b.length / 64 + j))).take 64 = ((padEnd (b.drop (64 * (b.length / 64))) b.length).drop (64 * j)).take 64 := by
  have lt : (b.take (64 * (b.length / 64))).length = 64 * (b.length / 64) := by simp; omega
  rw [padded_split, List.drop_append, lt, List.drop_eq_nil_of_le (by omega), List.nil_append, show 64 * (b.length / 64 + j) - 64 * (b.length / 64) = 64 * j by omega, List.drop_take, List.take_take, Nat.min_eq_left (by omega)]
theorem blocks_count (b : List UInt8) : (b.length + 72) / 64 = b.length / 64 + padSize (b.length % 64) / 64 := by
  unfold padSize
  split <;> omega

end Go.Proofs.Ytbooeabmpdpgpaa
