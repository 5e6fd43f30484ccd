/-
  The program's putWord: a word's four bytes, the highest first, into an array of bytes.
-/
import Derived.Test.YtflleblcliobdaaSArr
namespace Go.Proofs.Ytflleblcliobdaa
open Go.RowKit

def putN (bs : List UInt8) (o x : Nat) : Nat → List UInt8
  | 0 => bs
  | k + 1 => (putN bs o x k).set (o + k) (UInt8.ofNat (x / 256 ^ (3 - k)))
theorem putN_length (bs : List UInt8) (o x k : Nat) : (putN bs o x k).length = bs.length := by
  induction k with
  | zero => rfl
  | succ k ih => simp [putN, ih]
/-- What it comes to. -/
theorem putN_four (l r : List UInt8) (a b c d : UInt8) (x : Nat) : putN (l ++ [a, b, c, d] ++ r) l.length x 4 = l ++ bytesOf x 4 ++ r := by
  simp only [putN, bytesOf, Nat.add_zero]
  rw [List.append_assoc, List.append_assoc]
  have s : ∀ (k : Nat) (m : List UInt8) (y : UInt8), (l ++ m).set (l.length + k) y = l ++ m.set k y := fun k m y => by
    rw [List.set_append_right _ _ (by omega), Nat.add_sub_cancel_left]
  have s0 : ∀ (m : List UInt8) (y : UInt8), (l ++ m).set l.length y = l ++ m.set 0 y := fun m y => s 0 m y
  rw [s0, s, s, s]
  rfl

theorem byte_mod (x d : Nat) (z : Int) (h : z = ((x / d % 256 : Nat) : Int)) : z = ((UInt8.ofNat (x / d)).toNat : Int) := by
  rw [UInt8.toNat_ofNat', h]

set_option maxHeartbeats 1000000 in
theorem putWord_any {w : World} {b t o n cap : Nat} {bs : List UInt8} (x : Nat) (hx : x < 4294967296) (ha : Ar w b t (cells bs)) (ho : o + 4 ≤ bs.length) (hn : 4 ≤ n) :
    Calls Try.prog 61 #[.slice (some ⟨b, o, none⟩) n cap, .int .u32 x] w fun e w' => e = .returned (.tuple #[]) ∧ Ar w' b t (cells (putN bs o x 4)) ∧ Kept (· ≠ b) w w' ∧ w'.heap.size = w.heap.size := by
  have hn' : (4 : Int) ≤ (n : Int) := by omega
  go_enter Try.func61, Try.ntmps61
  go_wp2
  go_loopw [5] (fun ti wr => ∃ k : Nat, k ≤ 4 ∧ ti = .int .i64 k ∧ Ar wr b t (cells (putN bs o x k)) ∧ Kept (· ≠ b) w wr ∧ Hid (wr.heap.size = w.heap.size)) (fun ti _ => 4 - (intOf ti).toNat)
  case atStart => exact ⟨0, by omega, rfl, ha, Kept.refl _ _, rfl⟩
  case round =>
    clear ha
    obtain ⟨k, hk, rfl, ar, kr, sr⟩ := hrel
    by_cases hlk : k < 4
    · have hc : ∃ y, wr.cell? ⟨b, o + k, none⟩ = some y := ⟨_, by rw [ar.cell, cells_getElem _ _ (by rw [putN_length]; omega)]⟩
      obtain ⟨y, hc⟩ := hc
      have hf := ar.free (o + k)
      have HS : Hid (∀ z : UInt8, Ar (wr.setCell ⟨b, o + k, none⟩ (.int .u8 z.toNat)) b t (cells ((putN bs o x k).set (o + k) z))) := fun z => by
        have := ar.set (o + k) (.int .u8 z.toNat)
        rwa [cells_set] at this
      have HP : Hid (putN bs o x (k + 1) = (putN bs o x k).set (o + k) (UInt8.ofNat (x / 256 ^ (3 - k)))) := rfl
      have HZ : Hid (∀ u, (wr.setCell ⟨b, o + k, none⟩ u).heap.size = wr.heap.size) := fun u => by simp [World.setCell]
      clear ar
      obtain rfl | rfl | rfl | rfl : k = 0 ∨ k = 1 ∨ k = 2 ∨ k = 3 := by omega
      · rw [Nat.add_zero] at hc hf
        go_wp2
        go_roundw
        case rel =>
          refine ⟨1, by omega, by go_num, ?_, kr.setCell (by simp) _, (HZ.out _).trans sr⟩
          rw [HP.out, byte_mod x (256 ^ (3 - 0)) ((x : Int) / 16777216) (by simp; omega)]
          exact HS.out _
        case measure => simp [intOf]
      · go_wp2
        go_roundw
        case rel =>
          refine ⟨2, by omega, by go_num, ?_, kr.setCell (by simp) _, (HZ.out _).trans sr⟩
          rw [HP.out, byte_mod x (256 ^ (3 - 1)) ((x : Int) / 65536 % 256) (by simp)]
          exact HS.out _
        case measure => simp [intOf]
      · go_wp2
        go_roundw
        case rel =>
          refine ⟨3, by omega, by go_num, ?_, kr.setCell (by simp) _, (HZ.out _).trans sr⟩
          rw [HP.out, byte_mod x (256 ^ (3 - 2)) ((x : Int) / 256 % 256) (by simp)]
          exact HS.out _
        case measure => simp [intOf]
      · go_wp2
        go_roundw
        case rel =>
          refine ⟨4, by omega, by go_num, ?_, kr.setCell (by simp) _, (HZ.out _).trans sr⟩
          rw [HP.out, byte_mod x (256 ^ (3 - 3)) ((x : Int) % 256) (by simp)]
          exact HS.out _
        case measure => simp [intOf]
    · have hkl : ¬ (k : Int) < 4 := by omega
      obtain rfl : k = 4 := by omega
      go_wp2
      go_end0
      exact ⟨rfl, ar, kr, sr⟩

end Go.Proofs.Ytflleblcliobdaa

namespace Go.Proofs.Ytflleblcliobdaa
open Go.RowKit

def padSize (n : Nat) : Nat := if n + 9 > 64 then 128 else 64
/-- The last bytes, with what is behind them, and noughts up to the array's end. -/
def padEnd (last : List UInt8) (n : Nat) : List UInt8 := last ++ [128] ++ List.replicate (padSize last.length - last.length - 9) 0 ++ bytesOf (8 * n) 8 ++ List.replicate (128 - padSize last.length) 0

theorem ofNat_mod (a b : Nat) (h : a % 256 = b % 256) : UInt8.ofNat a = UInt8.ofNat b := by
  apply UInt8.toNat.inj
  rw [UInt8.toNat_ofNat', UInt8.toNat_ofNat', h]
theorem bytesOf_eight (x : Nat) : bytesOf x 8 = bytesOf (x / 4294967296) 4 ++ bytesOf (x % 4294967296) 4 := by
  show [_, _, _, _, _, _, _, _] = [_, _, _, _, _, _, _, _]
  have e : ∀ k : Nat, x / 4294967296 / 256 ^ k = x / 256 ^ (k + 4) := fun k => by
    rw [Nat.div_div_eq_div_mul, show (4294967296 : Nat) = 256 ^ 4 from rfl, ← Nat.pow_add, Nat.add_comm]
  rw [e 3, e 2, e 1, e 0]
  rw [ofNat_mod (x / 256 ^ 3) (x % 4294967296 / 256 ^ 3) (by simp; omega), ofNat_mod (x / 256 ^ 2) (x % 4294967296 / 256 ^ 2) (by simp; omega), ofNat_mod (x / 256 ^ 1) (x % 4294967296 / 256 ^ 1) (by simp; omega), ofNat_mod (x / 256 ^ 0) (x % 4294967296 / 256 ^ 0) (by simp)]
theorem pad_put (last : List UInt8) (n : Nat) (hl : last.length < 64) :
    putN (putN ((last ++ List.replicate (128 - last.length) 0).set last.length 128) (padSize last.length - 8) (8 * n / 4294967296) 4) (padSize last.length - 4) (8 * n % 4294967296) 4 = padEnd last n := by
  have hs : padSize last.length = 64 ∧ last.length + 9 ≤ 64 ∨ padSize last.length = 128 := by
    unfold padSize; split <;> omega
  obtain ⟨z, hz⟩ : ∃ z, padSize last.length = last.length + 9 + z := ⟨padSize last.length - last.length - 9, by omega⟩
  obtain ⟨y, hy⟩ : ∃ y, 128 = padSize last.length + y := ⟨128 - padSize last.length, by omega⟩
  have e1 : (last ++ List.replicate (128 - last.length) (0 : UInt8)).set last.length 128 = (last ++ [128] ++ List.replicate z 0) ++ [0, 0, 0, 0] ++ ([0, 0, 0, 0] ++ List.replicate y 0) := by
    rw [show 128 - last.length = (z + (4 + (4 + y))) + 1 by omega, List.replicate_succ, List.set_append_right _ _ (Nat.le_refl _), Nat.sub_self, List.set_cons_zero, ← List.replicate_append_replicate, ← List.replicate_append_replicate, ← List.replicate_append_replicate]
    simp [List.replicate]
  have l1 : (last ++ [128] ++ List.replicate z (0 : UInt8)).length = padSize last.length - 8 := by simp; omega
  rw [e1, ← l1, putN_four]
  have e2 : (last ++ [128] ++ List.replicate z (0 : UInt8)) ++ bytesOf (8 * n / 4294967296) 4 ++ ([0, 0, 0, 0] ++ List.replicate y 0) = ((last ++ [128] ++ List.replicate z (0 : UInt8)) ++ bytesOf (8 * n / 4294967296) 4) ++ [0, 0, 0, 0] ++ List.replicate y 0 := by simp
  have l2 : ((last ++ [128] ++ List.replicate z (0 : UInt8)) ++ bytesOf (8 * n / 4294967296) 4).length = padSize last.length - 4 := by simp [bytesOf_length]; omega
  rw [e2, ← l2, putN_four]
  unfold padEnd
  rw [bytesOf_eight, show padSize last.length - last.length - 9 = z by omega, show 128 - padSize last.length = y by omega]
  simp

/-- copy into an array of bytes, from its front. -/
theorem copy_arr (W : World) (b t m : Nat) (xs bs : List UInt8) (ao : Option Addr) (cap : Nat) (ha : Ar W b t (cells xs)) (hx : xs.length = m) (hm : bs.length ≤ m) (hs : Has W ao bs) :
    ∃ W', (Builtin.copy_ #[31, 31] 3 #[.slice (some ⟨b, 0, none⟩) m m, .slice ao bs.length cap]).run Try.prog W = .ok (.int .i64 bs.length) W' ∧
      Ar W' b t (cells (bs ++ xs.drop bs.length)) ∧ Kept (· ≠ b) W W' ∧ W'.heap.size = W.heap.size := by
  by_cases h0 : 0 < bs.length
  · obtain ⟨ad, rfl, hcell⟩ := hs h0
    have hrun := run_copy_row (P := Try.prog) W 31 31 3 5 b 0 m m ad bs.length cap (cells xs).toArray t (cells bs) Try.underlying31 Try.infoSize ha (by rw [cells_length]; exact (Nat.min_eq_left hm).symm) (Has.src hcell) (by simp [cells_length]; omega) (cells_one bs)
    refine ⟨_, ?_, setRow_heap W b _ (cells (bs ++ xs.drop bs.length)).toArray t _ ha, (Kept.refl _ _).setRow (by simp) _, by simp [World.setRow]⟩
    rw [hrun]
    simp [cells, List.map_drop]
    rfl
  · have hn : bs = [] := List.eq_nil_of_length_eq_zero (by omega)
    subst hn
    exact ⟨W, run_copy_none (P := Try.prog) W 31 31 3 5 _ _ _ _ _ _ Try.underlying31 Try.infoSize (by simp), by simpa using ha, Kept.refl _ _, rfl⟩

theorem zeros_b (n : Nat) : List.replicate n (Value.int .u8 0) = cells (List.replicate n 0) := by simp [cells]

set_option maxRecDepth 100000 in
set_option maxHeartbeats 1000000 in
theorem padded_any {w : World} {ao : Option Addr} {cap n : Nat} {last : List UInt8} (hh : Has w ao last) (hl : last.length < 64) (hn : n ≤ 140737488355328) :
    Calls Try.prog 60 #[.slice ao last.length cap, .int .u64 n] w fun e w' => e = .returned (.tuple #[.agg (cells (padEnd last n)).toArray, .int .i64 (padSize last.length : Nat)]) ∧ Kept (fun _ => True) w w' := by
  have HH : Hid (Has w ao last) := hh
  clear hh
  go_enter Try.func60, Try.ntmps60
  go_wp2_with (first
    | ((with_reducible refine w_alloc (d := some 4) arr128 ?_); intro w1 a4 k1 s1)
    | ((with_reducible refine w_alloc (d := some 6) arr128 ?_); intro w2 a6 k2 s2))
  rw [zeros_b] at a4 a6
  have a4' := a4.kept k2 trivial
  obtain ⟨w3, hrun, a6', k3, s3⟩ := copy_arr w2 w1.heap.size 98 128 (List.replicate 128 0) last ao cap a6 (by simp) (by omega) (HH.out.kept (k1.trans k2) (fun _ _ => trivial))
  have q1 := s1.out
  have q2 := s2.out
  have a4w := a4'.kept k3 (by omega)
  have K03 : Kept (fun _ => True) w w3 := (k1.trans k2).then k3 (fun i hi _ => by omega)
  have d1 : w.heap.size < w1.heap.size := by omega
  have d2 : w1.heap.size < w3.heap.size := by omega
  rw [List.drop_replicate] at a6'
  clear a4 a6 a4' k1 k2 k3 s1 s2 s3 q1 q2 HH
  rw [hrun]
  clear hrun
  generalize w1.heap.size = B6 at *
  obtain ⟨B4, hB⟩ : ∃ B, B = w.heap.size := ⟨_, rfl⟩
  rw [← hB] at a4w d1 ⊢
  have HB : Hid (B4 = w.heap.size) := hB
  clear hB
  have ll : (last ++ List.replicate (128 - last.length) (0 : UInt8)).length = 128 := by simp; omega
  obtain ⟨y, hcell⟩ : ∃ y, w3.cell? ⟨B6, last.length, none⟩ = some y := ⟨_, by rw [a6'.cell, cells_getElem _ _ (by omega)]⟩
  have hf := a6'.free last.length
  have a6s := a6'.set last.length (.int .u8 128)
  rw [show Value.int .u8 128 = .int .u8 ((128 : UInt8).toNat : Int) from rfl, cells_set] at a6s
  have K3s : Kept (fun _ => True) w (w3.setCell ⟨B6, last.length, none⟩ (.int .u8 ((128 : UInt8).toNat : Int))) := K03.then ((Kept.refl (· ≠ B6) w3).setCell (by simp) _) (fun i hi _ => by have := HB.out; omega)
  have a4s := a4w.kept ((Kept.refl (· ≠ B6) w3).setCell (ad := ⟨B6, last.length, none⟩) (by simp) (.int .u8 ((128 : UInt8).toNat : Int))) (by omega)
  have HA : Hid (Ar (w3.setCell ⟨B6, last.length, none⟩ (.int .u8 128)) B6 98 (cells ((last ++ List.replicate (128 - last.length) 0).set last.length 128)) ∧ Ar (w3.setCell ⟨B6, last.length, none⟩ (.int .u8 128)) B4 98 (cells (List.replicate 128 0)) ∧ Kept (fun _ => True) w (w3.setCell ⟨B6, last.length, none⟩ (.int .u8 128))) := ⟨a6s, a4s, K3s⟩
  have HP := pad_put last n hl
  have hll : (last.length : Int) < 64 := by omega
  clear a6' a6s a4w a4s K3s K03
  have pl : ((last ++ List.replicate (128 - last.length) 0).set last.length (128 : UInt8)).length = 128 := by rw [List.length_set, ll]
  generalize (last ++ List.replicate (128 - last.length) 0).set last.length (128 : UInt8) = E0 at *
  by_cases hbig : (64 : Int) < (last.length : Int) + 1 + 8
  · have hps : padSize last.length = 128 := by unfold padSize; rw [if_pos (by omega)]
    rw [hps] at HP
    have HS : Hid (padSize last.length = 128) := hps
    clear hps
    generalize hW4 : w3.setCell ⟨B6, last.length, none⟩ (.int .u8 128) = w4 at HA
    have c1 : Calls Try.prog 61 #[.slice (some ⟨B6, 120, none⟩) 8 8, .int .u32 ((n : Int) * 8 / 4294967296)] w4 fun e w' => e = .returned (.tuple #[]) ∧ Ar w' B6 98 (cells (putN E0 120 (8 * n / 4294967296) 4)) ∧ Kept (· ≠ B6) w4 w' ∧ w'.heap.size = w4.heap.size := by
      have := putWord_any (n := 8) (cap := 8) (o := 120) (8 * n / 4294967296) (by omega) HA.out.1 (by omega) (by omega)
      rwa [show ((8 * n / 4294967296 : Nat) : Int) = (n : Int) * 8 / 4294967296 by omega] at this
    go_wp2_with fail
    refine Calls.mono c1 ?_
    rintro e w5 ⟨rfl, a5, k5, s5⟩
    clear c1 hcell hf s5
    have c2 : Calls Try.prog 61 #[.slice (some ⟨B6, 124, none⟩) 4 4, .int .u32 ((n : Int) * 8 % 4294967296)] w5 fun e w' => e = .returned (.tuple #[]) ∧ Ar w' B6 98 (cells (putN (putN E0 120 (8 * n / 4294967296) 4) 124 (8 * n % 4294967296) 4)) ∧ Kept (· ≠ B6) w5 w' ∧ w'.heap.size = w5.heap.size := by
      have := putWord_any (n := 4) (cap := 4) (o := 124) (8 * n % 4294967296) (by omega) a5 (by rw [putN_length]; omega) (by omega)
      rwa [show ((8 * n % 4294967296 : Nat) : Int) = (n : Int) * 8 % 4294967296 by omega] at this
    go_wp2_with fail
    refine Calls.mono c2 ?_
    rintro e w6 ⟨rfl, a6, k6, s6⟩
    rw [HP] at a6
    have lp : (cells (padEnd last n)).length = 128 := by rw [← HP, cells_length, putN_length, putN_length, pl]
    have op := cells_one (padEnd last n)
    have a4x := (HA.out.2.1.kept k5 (by omega)).kept k6 (by omega)
    have K06 : Kept (fun _ => True) w w6 := (HA.out.2.2.then k5 (fun i hi _ => by have := HB.out; omega)).then k6 (fun i hi _ => by have := HB.out; omega)
    clear c2 a5 s6 HP HA k5 k6
    obtain ⟨xs, hxs⟩ : ∃ xs, xs = cells (padEnd last n) := ⟨_, rfl⟩
    rw [← hxs] at a6 lp op
    have HX : Hid (xs = cells (padEnd last n)) := hxs
    clear hxs
    go_wp2_with (first
      | ((with_reducible apply w_load (d := some 35) (b := B6) (xs := xs) arr128); (case hx => rfl); (case ha => exact a6); (case hl => exact lp))
      | ((with_reducible apply w_store (x := .tmp 4) (b := B4) (xs := xs) (old := cells (List.replicate 128 0)) arr128); (case hx => rfl); (case hy => rfl); (case ha => exact a4x); (case ho => simp [cells]); (case hl => exact lp); (case h1 => exact op); intro w9 a9 k9 s9))
    refine bodyPost_ret (results_ar2 (p := 4) (q := 5) arr128 rfl _ _ rfl a9 lp) rfl ⟨?_, K06.then k9 (fun i hi _ => by have := HB.out; omega)⟩
    rw [HX.out, HS.out]
    rfl
  · have hps : padSize last.length = 64 := by unfold padSize; rw [if_neg (by omega)]
    rw [hps] at HP
    have HS : Hid (padSize last.length = 64) := hps
    clear hps
    generalize hW4 : w3.setCell ⟨B6, last.length, none⟩ (.int .u8 128) = w4 at HA
    have c1 : Calls Try.prog 61 #[.slice (some ⟨B6, 56, none⟩) 72 72, .int .u32 ((n : Int) * 8 / 4294967296)] w4 fun e w' => e = .returned (.tuple #[]) ∧ Ar w' B6 98 (cells (putN E0 56 (8 * n / 4294967296) 4)) ∧ Kept (· ≠ B6) w4 w' ∧ w'.heap.size = w4.heap.size := by
      have := putWord_any (n := 72) (cap := 72) (o := 56) (8 * n / 4294967296) (by omega) HA.out.1 (by omega) (by omega)
      rwa [show ((8 * n / 4294967296 : Nat) : Int) = (n : Int) * 8 / 4294967296 by omega] at this
    go_wp2_with fail
    refine Calls.mono c1 ?_
    rintro e w5 ⟨rfl, a5, k5, s5⟩
    clear c1 hcell hf s5
    have c2 : Calls Try.prog 61 #[.slice (some ⟨B6, 60, none⟩) 68 68, .int .u32 ((n : Int) * 8 % 4294967296)] w5 fun e w' => e = .returned (.tuple #[]) ∧ Ar w' B6 98 (cells (putN (putN E0 56 (8 * n / 4294967296) 4) 60 (8 * n % 4294967296) 4)) ∧ Kept (· ≠ B6) w5 w' ∧ w'.heap.size = w5.heap.size := by
      have := putWord_any (n := 68) (cap := 68) (o := 60) (8 * n % 4294967296) (by omega) a5 (by rw [putN_length]; omega) (by omega)
      rwa [show ((8 * n % 4294967296 : Nat) : Int) = (n : Int) * 8 % 4294967296 by omega] at this
    go_wp2_with fail
    refine Calls.mono c2 ?_
    rintro e w6 ⟨rfl, a6, k6, s6⟩
    rw [HP] at a6
    have lp : (cells (padEnd last n)).length = 128 := by rw [← HP, cells_length, putN_length, putN_length, pl]
    have op := cells_one (padEnd last n)
    have a4x := (HA.out.2.1.kept k5 (by omega)).kept k6 (by omega)
    have K06 : Kept (fun _ => True) w w6 := (HA.out.2.2.then k5 (fun i hi _ => by have := HB.out; omega)).then k6 (fun i hi _ => by have := HB.out; omega)
    clear c2 a5 s6 HP HA k5 k6
    obtain ⟨xs, hxs⟩ : ∃ xs, xs = cells (padEnd last n) := ⟨_, rfl⟩
    rw [← hxs] at a6 lp op
    have HX : Hid (xs = cells (padEnd last n)) := hxs
    clear hxs
    go_wp2_with (first
      | ((with_reducible apply w_load (d := some 35) (b := B6) (xs := xs) arr128); (case hx => rfl); (case ha => exact a6); (case hl => exact lp))
      | ((with_reducible apply w_store (x := .tmp 4) (b := B4) (xs := xs) (old := cells (List.replicate 128 0)) arr128); (case hx => rfl); (case hy => rfl); (case ha => exact a4x); (case ho => simp [cells]); (case hl => exact lp); (case h1 => exact op); intro w9 a9 k9 s9))
    refine bodyPost_ret (results_ar2 (p := 4) (q := 5) arr128 rfl _ _ rfl a9 lp) rfl ⟨?_, K06.then k9 (fun i hi _ => by have := HB.out; omega)⟩
    rw [HX.out, HS.out]
    rfl

end Go.Proofs.Ytflleblcliobdaa
