/-
  DiskNumbers: it answers true.
-/
import Derived.Test.YtabemdmapadaoaaD4
namespace Go.Proofs.Ytabemdmapadaoaa
open Go.RowKit

theorem zeros_b (n : Nat) : List.replicate n (Value.int .u8 0) = cells (List.replicate n 0) := by simp [cells]
/-- What make leaves reads as noughts. -/
theorem own_zeros {w : World} {base g n : Nat} (h : w.ownsRow base 5 1 (.slice (some ⟨g, 0, none⟩) n n) n (madeCells (Value.int .u8 0).cells (n * 1)).toList) : Has w (some ⟨g, 0, none⟩) (List.replicate n 0) := by
  have e : (madeCells (Value.int .u8 0).cells (n * 1)).toList = cells (List.replicate n 0) := by
    rw [Nat.mul_one]
    exact (toList_madeCells_one (Value.int .u8 0) n).trans (zeros_b n)
  rw [e] at h
  exact own_has (bs := List.replicate n 0) (n := n) (cap := n) (b := base) (by rw [List.length_replicate]; exact h)

set_option maxRecDepth 100000 in
set_option maxHeartbeats 1000000 in
theorem diskNumbers_any (w : World) : Calls Try.prog 3 #[] w fun e w' => e = .returned (.bool true) ∧ Kept (fun _ => True) w w' := by
  obtain ⟨i, hi, hz0, hz1, hz2⟩ := info_parts Try.infoU8
  obtain ⟨n, hn⟩ : ∃ n : Nat, Hid (n = 4194302) := ⟨4194302, rfl⟩
  obtain ⟨n1, hn1⟩ : ∃ n : Nat, Hid (n = 4194303) := ⟨4194303, rfl⟩
  have hb : i.bytes * n ≤ 281474976710656 := by rw [hz2, hn.out]; omega
  have hb1 : i.bytes * n1 ≤ 281474976710656 := by rw [hz2, hn1.out]; omega
  have hm : n ≤ maxLen := by rw [hn.out]; unfold maxLen; omega
  have hm1 : n1 ≤ maxLen := by rw [hn1.out]; unfold maxLen; omega
  go_enter Try.func3, Try.ntmps3
  go_wp2_with fail
  refine Calls.mono new_any ?_
  rintro e w1 ⟨rfl, d1, k1⟩
  have m1 : Hid (Mine 50 w w1 w.heap.size (.slice none 0 0) [] 0) := Mine.new d1 k1
  clear d1 k1
  generalize w.heap.size = B at *
  have c := crash_any m1.out.now 5
  go_wp2_with fail
  refine Calls.mono c ?_
  rintro e w2 ⟨rfl, v2, s2⟩
  clear c
  have m2 : Hid (Mine 50 w _ B v2 [] 0) := m1.out.step s2
  clear s2 m1
  have cs : (convert 27 27 (.slice (some ⟨w2.heap.size, 0, none⟩) 3 3)).run Try.prog (w2.alloc (.cells #[.int .u8 97, .int .u8 98, .int .u8 99] 5)) = _ := conv_const w2 [97, 98, 99] 3 3
  have h3 := has_row (heap_alloc_new w2 (.cells (cells [97, 98, 99]).toArray 5 ((cells [97, 98, 99]).toArray.size, (cells [97, 98, 99]).toArray.size + 1)))
  have m3 : Hid (Mine 50 w _ B v2 [] 0) := m2.out.ahead ((Kept.refl _ _).alloc (.cells (cells [97, 98, 99]).toArray 5 ((cells [97, 98, 99]).toArray.size, (cells [97, 98, 99]).toArray.size + 1)))
  generalize w2.alloc (.cells (cells [97, 98, 99]).toArray 5 ((cells [97, 98, 99]).toArray.size, (cells [97, 98, 99]).toArray.size + 1)) = w3 at *
  have c := append_any (cap := 3) m3.out.now h3 (by simp) (by simp)
  clear h3 m2
  go_wp2_with fail
  refine Calls.mono c ?_
  rintro e w4 ⟨rfl, v4, s4⟩
  clear c cs
  have m4 : Hid (Mine 50 w _ B v4 [97, 98, 99] 0) := m3.out.step s4
  clear s4 m3
  have c := cut_bad m4.out.now 9 (by simp)
  go_wp2_with fail
  refine Calls.mono c ?_
  rintro e w4 ⟨rfl, rfl⟩
  clear c
  have c := cut_bad m4.out.now (-1) (by simp)
  go_wp2_with fail
  refine Calls.mono c ?_
  rintro e w4 ⟨rfl, rfl⟩
  clear c
  have c := sync_any m4.out.now
  go_wp2_with fail
  refine Calls.mono c ?_
  rintro e w5 ⟨rfl, s5⟩
  clear c
  have m5 : Hid (Mine 50 w _ B v4 [97, 98, 99] 3) := m4.out.step s5
  clear s5 m4
  have c := cut_any m5.out.now 2 (by simp)
  go_wp2_with fail
  refine Calls.mono c ?_
  rintro e w6 ⟨rfl, v6, s6⟩
  clear c
  have m6 : Hid (Mine 50 w _ B v6 [97, 98] 2) := m5.out.step s6
  clear s6 m5
  have c := safe_any m6.out.now
  go_wp2_with fail
  refine Calls.mono c ?_
  rintro e w6 ⟨rfl, rfl⟩
  clear c
  go_wp2_with (at_make; refine wpList_make_full _ rfl _ _ _ rfl w6.heap.size 5 i (.int .u8 0) 1 Try.underlying27 hi hz0 hz1 _ _ _ _ n1 rfl rfl (by have := hn1.out; omega) (by have := hn1.out; omega) hb1 hm1 (Nat.le_refl _) ?_; intro w7 ho7 hg7)
  have k7 : Kept (fun _ => True) w6 w7 := (Kept.refl _ _).grown hg7 (fun k _ h => by cases h)
  have m7 : Hid (Mine 50 w _ B v6 [97, 98] 2) := m6.out.ahead k7
  have c := append_full (ao := some ⟨w6.heap.size, 0, none⟩) (cap := n1) (n := n1) m7.out.now (by have := hn1.out; simp; omega)
  clear ho7 hg7 k7 m6
  refine Calls.mono c ?_
  rintro e w7 ⟨rfl, rfl⟩
  clear c
  go_wp2_with (at_make; refine wpList_make_full _ rfl _ _ _ rfl w7.heap.size 5 i (.int .u8 0) 1 Try.underlying27 hi hz0 hz1 _ _ _ _ n rfl rfl (by have := hn.out; omega) (by have := hn.out; omega) hb hm (Nat.le_refl _) ?_; intro w8 ho8 hg8)
  have k8 : Kept (fun _ => True) w7 w8 := (Kept.refl _ _).grown hg8 (fun k _ h => by cases h)
  have m8 : Hid (Mine 50 w _ B v6 [97, 98] 2) := m7.out.ahead k8
  have c := append_any (cap := n) m8.out.now (own_zeros ho8) (by simp) (by have := hn.out; simp; omega)
  rw [List.length_replicate] at c
  clear ho8 hg8 k8 m7
  refine Calls.mono c ?_
  rintro e w9 ⟨rfl, v9, s9⟩
  clear c
  have m9 : Hid (Mine 50 w _ B v9 ([97, 98] ++ List.replicate n 0) 2) := m8.out.step s9
  clear s9 m8
  obtain ⟨L, hL⟩ : ∃ L : List UInt8, L = [97, 98] ++ List.replicate n 0 := ⟨_, rfl⟩
  have hl : Hid (L.length = 4194304) := by
    have := hn.out
    rw [hL]
    show _ = _
    rw [List.length_append, List.length_replicate]
    simp
    omega
  rw [← hL] at m9
  clear hL hb hb1 hm hm1 hn hn1 hi hz0 hz1 hz2
  have m10 : Hid (Mine 50 w _ B v9 L 2) := m9.out.ahead ((Kept.refl _ _).alloc (.cells #[.int .u8 1] 5))
  have c := append_full (ao := some ⟨w9.heap.size, 0, none⟩) (cap := 1) (n := 1) m10.out.now (by have := hl.out; omega)
  clear m9
  go_wp2_with fail
  refine Calls.mono c ?_
  rintro e _ ⟨rfl, rfl⟩
  clear c
  have c := bytes_any m10.out.now
  rw [hl.out] at c
  go_wp2_with fail
  refine Calls.mono c ?_
  rintro e w11 ⟨rfl, r11, k11⟩
  clear c r11
  have k12 := m10.out.kept.trans k11
  clear m10 k11
  go_wp2_with fail
  refine Calls.mono (known_any _) ?_
  rintro e w13 ⟨rfl, k13⟩
  go_wp2
  go_ret
  exact ⟨rfl, k12.trans k13⟩

end Go.Proofs.Ytabemdmapadaoaa
