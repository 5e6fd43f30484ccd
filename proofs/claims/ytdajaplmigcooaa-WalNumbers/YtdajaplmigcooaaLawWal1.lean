/-
  WalNumbers: chapter 6's runs.
-/
import Derived.Test.YtdajaplmigcooaaWKnown
namespace Go.Proofs.Ytdajaplmigcooaa
open Go.RowKit

variable {w w' : World} {L B : Nat} {v v' tv tv' : Value} {bs bs' : List UInt8} {s s' : Nat} {ss ss' : List (List UInt8)}
set_option maxHeartbeats 400000 in
theorem lappend_long (r : List UInt8) (hr : 4000 < r.length) :
    Calls Try.prog 11 #[.pointer (some ⟨L, 0, none⟩), .string ⟨r.toArray⟩] w fun e w' => e = .returned (.int .i64 3) ∧ w' = w := by
  have c := write_long (w := w) (L := L) false r hr
  go_enter Try.func11, Try.ntmps11
  go_wp2_with fail
  refine Calls.mono c ?_
  rintro e w ⟨rfl, rfl⟩
  go_wp2
  go_ret
  exact ⟨rfl, rfl⟩
set_option maxHeartbeats 400000 in
theorem lreset_long (r : List UInt8) (hr : 4000 < r.length) :
    Calls Try.prog 12 #[.pointer (some ⟨L, 0, none⟩), .string ⟨r.toArray⟩] w fun e w' => e = .returned (.int .i64 3) ∧ w' = w := by
  have c := write_long (w := w) (L := L) true r hr
  go_enter Try.func12, Try.ntmps12
  go_wp2_with fail
  refine Calls.mono c ?_
  rintro e w ⟨rfl, rfl⟩
  go_wp2
  go_ret
  exact ⟨rfl, rfl⟩
theorem made_cells (n : Nat) : (madeCells (Value.int IntKind.u8 0).cells n).toList = List.replicate n (.int .u8 0) := by
  refine List.ext_getElem (by simp [madeCells, Value.cells]) fun k h1 h2 => ?_
  simp [madeCells, Value.cells, Nat.mod_one]
theorem made_text {w1 : World} {base g : Nat} {n : Nat} {xs : List Value} (h : w1.ownsRow base 5 1 (.slice (some ⟨g, 0, none⟩) n n) n xs) (hx : xs = List.replicate n (.int .u8 0)) : ∃ Z : List UInt8, Z.length = n ∧ (convert 29 9 (.slice (some ⟨g, 0, none⟩) n n)).run Try.prog w1 = .ok (.string ⟨Z.toArray⟩) w1 := by
  refine ⟨List.replicate n 0, by simp, ?_⟩
  have e : cells (List.replicate n 0) = List.replicate n (.int .u8 0) := by simp [cells]
  have hl : (List.replicate n (0 : UInt8)).length = n := by simp
  refine conv_own (b := base) ?_
  rw [hl, e, ← hx]
  exact h

theorem run_d : scanOf ([] ++ frameOf false [111, 108, 100] ++ frameOf true [120] ++ frameOf false [] ++ [1, 2, 3]) = ([[120], []], 31) := by kernel_rfl

set_option maxRecDepth 100000 in
set_option maxHeartbeats 2000000 in
theorem walNumbers_any {w : World} :
    Calls Try.prog 3 #[] w fun e w' => e = .returned (.bool true) ∧ Kept (fun _ => True) w w' := by
  obtain ⟨i, hi, hz0, hz1, hz2⟩ := info_parts Try.infoU8
  have hb' : i.bytes * 4001 ≤ 281474976710656 := by rw [hz2]; omega
  have hb2 : 4001 ≤ maxLen := by unfold maxLen; omega
  go_enter Try.func3, Try.ntmps3
  go_wp2_with fail
  refine Calls.mono open_nil ?_
  rintro e w ⟨rfl, rfl⟩
  go_wp2_with fail
  refine Calls.mono new_any ?_
  rintro e w1 ⟨rfl, d1, k1⟩
  have m1 := Mine.new d1 k1
  generalize w.heap.size = B at m1 ⊢
  clear d1 k1
  go_wp2_with fail
  refine Calls.mono (open_any m1.now) ?_
  rintro e w2 ⟨L, v2, t2, rfl, l2, k2, n2⟩
  have m2 : LM w w2 L B v2 t2 [] 0 [] := by have := m1.log l2 k2 n2; rw [run_a] at this; exact this
  clear l2 k2 n2 m1
  go_wp2_with (at_make; refine wpList_make_full _ rfl _ _ _ rfl w2.heap.size 5 i (.int .u8 0) 1 Try.underlying29 hi hz0 hz1 _ _ _ _ 4001 rfl rfl rfl rfl hb' hb2 (Nat.le_refl _) ?_; intro w3 ho3 hg3; obtain ⟨Z3, lZ3, cZ3⟩ := made_text ho3 (made_cells _))
  have m3 := m2.ahead ((Kept.refl _ _).grown hg3 (fun k _ h => by cases h))
  clear ho3 hg3 m2 cZ3
  refine Calls.mono (lappend_long Z3 (by omega)) ?_
  rintro e w3 ⟨rfl, rfl⟩
  go_wp2_with (at_make; refine wpList_make_full _ rfl _ _ _ rfl w3.heap.size 5 i (.int .u8 0) 1 Try.underlying29 hi hz0 hz1 _ _ _ _ 4001 rfl rfl rfl rfl hb' hb2 (Nat.le_refl _) ?_; intro w4 ho4 hg4; obtain ⟨Z4, lZ4, cZ4⟩ := made_text ho4 (made_cells _))
  have m4 := m3.ahead ((Kept.refl _ _).grown hg4 (fun k _ h => by cases h))
  clear ho4 hg4 m3 cZ4
  refine Calls.mono (lreset_long Z4 (by omega)) ?_
  rintro e w4 ⟨rfl, rfl⟩
  go_wp2_with fail
  refine Calls.mono (lappend_any m4.lg [111, 108, 100] (by simp) (by simp)) ?_
  rintro e w5 ⟨rfl, v5, t5, l5, q5⟩
  have m5 := m4.step l5 q5
  clear m4 l5 q5
  go_wp2_with fail
  refine Calls.mono (lreset_any m5.lg [120] (by simp) (by simp [frameOf_length])) ?_
  rintro e w6 ⟨rfl, v6, t6, l6, q6⟩
  have m6 := m5.step l6 q6
  clear m5 l6 q6
  go_wp2_with fail
  refine Calls.mono (lappend_any m6.lg [] (by simp) (by simp [frameOf_length])) ?_
  rintro e w7 ⟨rfl, v7, t7, l7, q7⟩
  have m7 := m6.step l7 q7
  clear m6 l7 q7
  go_wp2_with fail
  refine Calls.mono (llen_any m7.lg) ?_
  rintro e w7 ⟨rfl, rfl⟩
  go_wp2_with fail
  refine Calls.mono (lsync_any m7.lg) ?_
  rintro e w8 ⟨rfl, l8, q8⟩
  have m8 := m7.step l8 q8
  clear m7 l8 q8
  go_wp2_with fail
  refine Calls.mono (append_any (xs := [1, 2, 3]) (m8.disk.ahead ((Kept.refl _ _).alloc _)).now (has_row (heap_alloc_new w8 _)) (by simp) (by simp [frameOf_length])) ?_
  rintro e w9 ⟨rfl, v9, s9⟩
  have m9 := (m8.disk.ahead ((Kept.refl _ _).alloc _)).step s9
  clear m8 s9
  go_wp2_with fail
  refine Calls.mono (open_any m9.now) ?_
  rintro e w10 ⟨M, v10, t10, rfl, l10, k10, n10⟩
  have m10 := m9.log l10 k10 n10
  rw [run_d] at m10
  clear l10 k10 n10 m9
  go_wp2_with fail
  refine Calls.mono (lall_any m10.lg) ?_
  rintro e w11 ⟨rfl, h11, k11⟩
  have m11 := m10.ahead k11
  clear m10 k11
  go_wp2_with fail
  refine Calls.mono (texts_any (h11.fresh _) (Txs.new w11 w11.heap.size [[120], []] (Nat.le_refl _) (by simp)) (by simp)) ?_
  rintro e w12 ⟨rfl, n12, rfl⟩
  rw [decide_eq_true rfl]
  have m12 := m11.ahead (((Kept.refl _ _).alloc (.cells #[.string ⟨#[120]⟩, .string ⟨#[]⟩] 9)).drewN n12)
  clear m11 h11
  generalize (w11.alloc (.cells #[.string ⟨#[120]⟩, .string ⟨#[]⟩] 9)).drewN n12 = w12 at *
  go_wp2_with fail
  refine Calls.mono (bytes_any m12.lg.dk) ?_
  rintro e w13 ⟨rfl, -, k13⟩
  have K13 : Hid (Kept (fun _ => True) w w13) := m12.kept.trans k13
  clear m12 k13
  have hl31 : (([] ++ frameOf false [111, 108, 100] ++ frameOf true [120] ++ frameOf false [] ++ [1, 2, 3]).take 31).length = 31 := by simp [frameOf_length]
  rw [hl31]
  go_wp2_with fail
  refine Calls.mono known_any ?_
  rintro e w14 ⟨rfl, k14⟩
  go_wp2
  go_ret
  exact ⟨rfl, K13.out.trans k14⟩

end Go.Proofs.Ytdajaplmigcooaa
