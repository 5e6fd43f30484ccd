/-
  The books' own Roomy, Same and Intact, over bytes.
-/
import Derived.Test.YtflleblcliobdaaSCrc
import Derived.Test.YtflleblcliobdaaSB
namespace Go.Proofs.Ytflleblcliobdaa
open Go.RowKit

/-- copy over the first part of a row that was made. -/
theorem copy_part (W : World) (g m : Nat) (cur : Array Value) (bs : List UInt8) (ao : Option Addr) (cap : Nat) (hg : W.heap[g]? = some (.cells cur 5 (0, 0))) (hc : cur.size = m) (hm : bs.length ≤ m) (hs : Has W ao bs) :
    ∃ W' cur', (Builtin.copy_ #[31, 31] 3 #[.slice (some ⟨g, 0, none⟩) m m, .slice ao bs.length cap]).run Try.prog W = .ok (.int .i64 bs.length) W' ∧
      W'.heap[g]? = some (.cells cur' 5 (0, 0)) ∧ cur'.size = m ∧ cur'.toList.take bs.length = cells bs ∧ Kept (· ≠ g) W W' := by
  by_cases h0 : 0 < bs.length
  · obtain ⟨ad, rfl, hcell⟩ := hs h0
    have hrun := run_copy_row (P := Try.prog) W 31 31 3 5 g 0 m m ad bs.length cap cur 5 (cells bs) Try.underlying31 Try.infoSize hg (by rw [cells_length]; exact (Nat.min_eq_left hm).symm) (Has.src hcell) (by rw [cells_length]; omega) (cells_one bs)
    refine ⟨_, (cells bs ++ cur.toList.drop bs.length).toArray, ?_, setRow_heap W g _ _ 5 _ hg, ?_, ?_, (Kept.refl _ _).setRow (by simp) _⟩
    · rw [hrun]
      simp [cells_length]
      rfl
    · simp [cells_length, hc]; omega
    · simp only
      have := List.take_left (l₁ := cells bs) (l₂ := cur.toList.drop bs.length)
      rwa [cells_length] at this
  · have hn : bs = [] := List.eq_nil_of_length_eq_zero (by omega)
    subst hn
    exact ⟨W, cur, run_copy_none (P := Try.prog) W 31 31 3 5 _ _ _ _ _ _ Try.underlying31 Try.infoSize (by simp), hg, hc, by simp [cells], Kept.refl _ _⟩

def full (bs : List UInt8) : List UInt8 := bs ++ List.replicate 80 165
theorem full_length (bs : List UInt8) : (full bs).length = bs.length + 80 := by simp [full]

set_option maxRecDepth 100000 in
set_option maxHeartbeats 1000000 in
theorem roomy_any {w : World} {ao : Option Addr} {cap : Nat} {bs : List UInt8} (hh : Has w ao bs) (hb : (bs.length : Int) ≤ 100000000000) :
    Calls Try.prog 23 #[.slice ao bs.length cap, .int .u8 165] w fun e w' => ∃ D, e = .returned (.slice (some ⟨D, 0, none⟩) (bs.length + 80) (bs.length + 80)) ∧ w'.ownsRow w.heap.size 5 1 (.slice (some ⟨D, 0, none⟩) (bs.length + 80) (bs.length + 80)) (bs.length + 80) (cells (full bs)) ∧ Kept (fun _ => True) w w' := by
  obtain ⟨i, hi, hz0, hz1, hz2⟩ := info_parts Try.infoU8
  have hb' : i.bytes * (bs.length + 80) ≤ 281474976710656 := by rw [hz2]; omega
  have hb2 : bs.length + 80 ≤ maxLen := by unfold maxLen; omega
  have HH : Hid (Has w ao bs) := hh
  clear hh
  go_enter Try.func23, Try.ntmps23
  go_wp2_with (at_make; refine wpList_make_full _ rfl _ _ _ rfl w.heap.size 5 i (.int .u8 0) 1 Try.underlying31 hi hz0 hz1 _ _ _ _ (bs.length + 80) rfl rfl (by simp) (by simp) hb' hb2 (Nat.le_refl _) ?_; intro w1 hown hg; obtain ⟨cur, hrow, hcs⟩ := made_row hown)
  have k1 : Kept (fun _ => True) w w1 := (Kept.refl _ _).grown hg (fun k _ h => by cases h)
  obtain ⟨w2, cur', hrun, hrow2, hs2, ht2, k2⟩ := copy_part w1 w.heap.size (bs.length + 80) cur bs ao cap hrow hcs (by omega) (HH.out.kept k1 (fun _ _ => trivial))
  have ho : w2.ownsRow w.heap.size 5 1 (.slice (some ⟨w.heap.size, 0, none⟩) (bs.length + 80) (bs.length + 80)) (bs.length + 80) cur'.toList := ⟨by simp [hs2], .inr ⟨w.heap.size, bs.length + 80, cur', rfl, Nat.le_refl _, hrow2, Nat.le_refl _, hb2, by simp [hs2], by simp [← hs2, List.take_of_length_le]⟩⟩
  have k02 : Kept (fun _ => True) w w2 := k1.then k2 (fun i hi _ => by omega)
  rw [hrun]
  clear hown hg hrow hcs k1 hrun hrow2 hs2 k2 HH
  go_wp2
  go_loopw [6] (fun t wr => ∃ (k : Nat) (xs : List Value), k ≤ 80 ∧ t = .int .i64 ((bs.length + k : Nat) : Int) ∧ wr.ownsRow w.heap.size 5 1 (.slice (some ⟨w.heap.size, 0, none⟩) (bs.length + 80) (bs.length + 80)) (bs.length + 80) xs ∧ xs.take (bs.length + k) = cells (bs ++ List.replicate k 165) ∧ Kept (fun _ => True) w wr) (fun t _ => bs.length + 80 - (intOf t).toNat)
  case atStart => exact ⟨0, _, by omega, rfl, ho, by simpa using ht2, k02⟩
  case round =>
    clear ho ht2 k02
    obtain ⟨k, xs, hk, rfl, hx, ht, kr⟩ := hrel
    have lx : xs.length = bs.length + 80 := by simpa using hx.1
    by_cases hlt : k < 80
    · have hc : ∃ u, wr.cell? ⟨w.heap.size, bs.length + k, none⟩ = some u := ⟨_, by rw [hx.cellAt (bs.length + k) (by omega), List.getElem?_eq_getElem (by omega)]⟩
      obtain ⟨u, hc⟩ := hc
      have hf := hx.frozenAt (bs.length + k)
      have HX : Hid ((wr.setCell ⟨w.heap.size, bs.length + k, none⟩ (.int .u8 165)).ownsRow w.heap.size 5 1 (.slice (some ⟨w.heap.size, 0, none⟩) (bs.length + 80) (bs.length + 80)) (bs.length + 80) (xs.set (bs.length + k) (.int .u8 165)) ∧ (xs.set (bs.length + k) (.int .u8 165)).take (bs.length + (k + 1)) = cells (bs ++ List.replicate (k + 1) 165) ∧ Kept (fun _ => True) w (wr.setCell ⟨w.heap.size, bs.length + k, none⟩ (.int .u8 165))) := by
        refine ⟨(hx.stored _ _).1, ?_, ?_⟩
        · rw [← Nat.add_assoc, List.take_succ_eq_append_getElem (by simp; omega), List.take_set_of_le (by omega), ht, List.getElem_set_self]
          rw [show k + 1 = k + 1 from rfl, List.replicate_succ', ← List.append_assoc, cells_append (bs ++ List.replicate k 165)]
          rfl
        · exact ⟨kr.os, kr.tape, kr.output, by have := kr.size; simpa using this, fun b hb _ => by rw [Below.heap_setCell _ _ _ _ (by simp; omega)]; exact kr.block b hb trivial⟩
      have hl2 : ((bs.length : Int) + (k : Int)) < (bs.length : Int) + 80 := by omega
      clear hx ht lx kr
      go_wp2
      go_roundw
      case rel => exact ⟨k + 1, _, by omega, by go_num, HX.out.1, HX.out.2.1, HX.out.2.2⟩
      case measure => simp [intOf]; omega
    · have hl2 : ¬ (((bs.length : Int) + (k : Int)) < (bs.length : Int) + 80) := by omega
      obtain rfl : k = 80 := by omega
      have hfin : xs = cells (full bs) := by rw [← List.take_of_length_le (Nat.le_of_eq lx), ht]; rfl
      rw [hfin] at hx
      clear ht lx hfin
      go_wp2
      go_ret
      exact ⟨w.heap.size, rfl, hx, kr⟩

theorem full_get (bs : List UInt8) (k : Nat) (hk : k < 80) : (full bs)[bs.length + k]? = some 165 := by
  unfold full
  rw [List.getElem?_append_right (by omega), Nat.add_sub_cancel_left, List.getElem?_replicate, if_pos hk]

set_option maxRecDepth 100000 in
set_option maxHeartbeats 1000000 in
theorem same_any {w : World} {a b : Option Addr} {c d : Nat} {bs : List UInt8} (ha : Has w a bs) (hb : Has w b bs) (hl : (bs.length : Int) ≤ 140737488355328) :
    Calls Try.prog 48 #[.slice a bs.length c, .slice b bs.length d] w fun e w' => e = .returned (.bool true) ∧ ∃ n, w' = w.drewN n := by
  have HA : Hid (Has w a bs) := ha
  have HB : Hid (Has w b bs) := hb
  clear ha hb
  go_enter Try.func48, Try.ntmps48
  go_wp2
  go_loopw [5] (fun t wr => ∃ k m : Nat, k ≤ bs.length ∧ t = .int .i64 k ∧ wr = w.drewN m) (fun t _ => bs.length - (intOf t).toNat)
  case atStart => exact ⟨0, 0, Nat.zero_le _, rfl, rfl⟩
  case round =>
    obtain ⟨k, m, hk, rfl, rfl⟩ := hrel
    by_cases hlt : k < bs.length
    · obtain ⟨b1, o1, rfl, h1⟩ := has_plain HA.out (by omega)
      obtain ⟨b2, o2, rfl, h2⟩ := has_plain HB.out (by omega)
      have c1 := h1 k hlt
      have c2 := h2 k hlt
      have hkl : (k : Int) < (bs.length : Int) := by omega
      have hk0 : (0 : Int) ≤ (k : Int) := by omega
      generalize (bs[k]).toNat = y at *
      clear h1 h2
      go_wp2
      go_quiet (fail)
      go_wp2
      go_roundw
      case rel => exact ⟨k + 1, _, by omega, by go_num, rfl⟩
      case measure => simp [intOf]; omega
    · have hkl : ¬ ((k : Int) < (bs.length : Int)) := by omega
      go_wp2
      go_ret
      exact ⟨rfl, m, rfl⟩

set_option maxRecDepth 100000 in
set_option maxHeartbeats 1000000 in
theorem intact_any {w : World} {D base : Nat} {b : Option Addr} {d : Nat} {bs : List UInt8} (ho : w.ownsRow base 5 1 (.slice (some ⟨D, 0, none⟩) (bs.length + 80) (bs.length + 80)) (bs.length + 80) (cells (full bs))) (hb : Has w b bs) (hl : (bs.length : Int) ≤ 100000000000) :
    Calls Try.prog 25 #[.slice (some ⟨D, 0, none⟩) (bs.length + 80) (bs.length + 80), .slice b bs.length d, .int .u8 165] w fun e w' => e = .returned (.bool true) ∧ ∃ n, w' = w.drewN n := by
  have hcell : ∀ j (hj : j < (full bs).length), w.cell? ⟨D, j, none⟩ = some (.int .u8 ((full bs)[j]).toNat) := fun j hj => by
    rw [full_length] at hj
    rw [ho.cellAt j (by omega), cells_getElem (full bs) j (by rw [full_length]; exact hj)]
  have ha : Has w (some ⟨D, 0, none⟩) bs := by
    intro h0
    refine ⟨_, rfl, fun j hj => ?_⟩
    rw [WideShapes.add_plain, Nat.zero_add, hcell j (by rw [full_length]; omega)]
    congr 3
    simp [full, List.getElem_append_left hj]
  have htail : ∀ k, k < 80 → w.cell? ⟨D, bs.length + k, none⟩ = some (.int .u8 165) := fun k hk => by
    have hj : bs.length + k < (full bs).length := by rw [full_length]; omega
    have e : (full bs)[bs.length + k] = 165 := (List.getElem?_eq_some_iff.1 (full_get bs k hk)).2
    rw [hcell (bs.length + k) hj, e]
    rfl
  have hsl : ∀ w0, (Instr.slice 31 (.slice (some ⟨D, 0, none⟩) (bs.length + 80) (bs.length + 80)) none (some (.int .i64 (bs.length : Int))) none).run Try.prog w0 = .ok (.slice (some ⟨D, 0, none⟩) bs.length (bs.length + 80)) w0 := fun w0 => by
    rw [run_slice_h (P := Try.prog) w0 31 (some ⟨D, 0, none⟩) (bs.length + 80) (bs.length + 80) Try.underlying31 .i64 bs.length (by omega) (by omega), size_u8]
    simp [Result.andThen, sliced, Addr.add]
  have c := same_any (c := bs.length + 80) (d := d) ha hb (by omega)
  have HT : Hid (∀ k, k < 80 → w.cell? ⟨D, bs.length + k, none⟩ = some (.int .u8 165)) := htail
  clear ho hcell ha htail hb
  go_enter Try.func25, Try.ntmps25
  go_wp2_with fail
  refine Calls.mono c ?_
  rintro e _ ⟨rfl, m0, rfl⟩
  clear c
  go_wp2
  go_loopw [7] (fun t wr => ∃ k m : Nat, k ≤ 80 ∧ t = .int .i64 ((bs.length + k : Nat) : Int) ∧ wr = w.drewN m) (fun t _ => bs.length + 80 - (intOf t).toNat)
  case atStart => exact ⟨0, m0, by omega, rfl, rfl⟩
  case round =>
    obtain ⟨k, m, hk, rfl, rfl⟩ := hrel
    by_cases hlt : k < 80
    · have c1 := HT.out k hlt
      have hkl : (bs.length : Int) + (k : Int) < (bs.length : Int) + 80 := by omega
      go_wp2
      go_roundw
      case rel => exact ⟨k + 1, _, by omega, by go_num, rfl⟩
      case measure => simp [intOf]; omega
    · have hkl : ¬ ((bs.length : Int) + (k : Int) < (bs.length : Int) + 80) := by omega
      go_wp2
      go_ret
      exact ⟨rfl, m, rfl⟩

end Go.Proofs.Ytflleblcliobdaa

namespace Go.Proofs.Ytflleblcliobdaa
open Go.RowKit

set_option maxHeartbeats 1000000 in
theorem within_any {w : World} (n : Int) (m : Nat) (hm : m ≤ 1000000000000) :
    Calls Try.prog 18 #[.int .i64 n, .int .i64 0, .int .i64 m] w fun e w' => (∃ k : Nat, k ≤ m ∧ e = .returned (.int .i64 k)) ∧ w' = w := by
  have hz : ((m : Int) + 1 == 0) = false := by simp; omega
  have hz2 : ¬ ((m : Int) + 1 = 0) := by omega
  have hz3 : ¬ ((m : Int) + 1 = -1) := by omega
  have h1 : n.tmod ((m : Int) + 1) < (m : Int) + 1 := Int.tmod_lt_of_pos n (by omega)
  have h2 : -((m : Int) + 1) < n.tmod ((m : Int) + 1) := by
    have := Int.tmod_lt_of_pos (-n) (show (0 : Int) < (m : Int) + 1 by omega)
    rw [Int.neg_tmod] at this
    omega
  generalize hr : n.tmod ((m : Int) + 1) = r at *
  by_cases hn : r < 0
  · go_enter Try.func18, Try.ntmps18
    go_wp2
    go_ret
    refine ⟨⟨(r + (m : Int) + 1).toNat, by omega, ?_⟩, rfl⟩
    rw [Int.toNat_of_nonneg (by omega)]
    rfl
  · go_enter Try.func18, Try.ntmps18
    go_wp2
    go_ret
    refine ⟨⟨r.toNat, by omega, ?_⟩, rfl⟩
    rw [Int.toNat_of_nonneg (by omega)]
    rfl

end Go.Proofs.Ytflleblcliobdaa
