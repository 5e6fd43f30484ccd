/-
  hist.Before and hist.Count.
-/
import Derived.Test.YtllopkebamlgeaaHiOps
namespace Go.Proofs.Ytllopkebamlgeaa
open Go.RowKit Go.Maps Go.Sort

theorem Bk.eight {w : World} {X : Nat} {t : TypeId} {a b c d e f g h : Value} (hh : Bk w X t [a, b, c, d, e, f, g, h]) : w.cell? ⟨X, 0, none⟩ = some a ∧ w.cell? ⟨X, 1, none⟩ = some b ∧ w.cell? ⟨X, 2, none⟩ = some c ∧ w.cell? ⟨X, 3, none⟩ = some d ∧ w.cell? ⟨X, 4, none⟩ = some e ∧ w.cell? ⟨X, 5, none⟩ = some f ∧ w.cell? ⟨X, 6, none⟩ = some g ∧ w.cell? ⟨X, 7, none⟩ = some h :=
  ⟨cell_of_row _ _ 0 _ _ _ hh, cell_of_row _ _ 1 _ _ _ hh, cell_of_row _ _ 2 _ _ _ hh, cell_of_row _ _ 3 _ _ _ hh, cell_of_row _ _ 4 _ _ _ hh, cell_of_row _ _ 5 _ _ _ hh, cell_of_row _ _ 6 _ _ _ hh, cell_of_row _ _ 7 _ _ _ hh⟩

set_option maxRecDepth 100000 in
set_option maxHeartbeats 4000000 in
theorem waits_any (w : World) (x : Oc) : Calls Try.prog 18 #[.agg (occ x).toArray] w fun e w' => e = .returned (.bool (decide (x.tz < 0))) ∧ Kept (fun _ => True) w w' := by
  obtain ⟨cl, oa, on, oc, out, ta, tn, tc, ix, why, fr, tz⟩ := x
  unfold occ
  simp only
  obtain ⟨w1, hw1⟩ : ∃ x, x = w.alloc (.cells #[.int .i64 cl, .slice oa on oc, .int .i64 out, .slice ta tn tc, .int .i64 ix, .int .i64 why, .int .i64 fr, .int .i64 tz] 35) := ⟨_, rfl⟩
  have F1 : Bk w1 w.heap.size 35 [.int .i64 cl, .slice oa on oc, .int .i64 out, .slice ta tn tc, .int .i64 ix, .int .i64 why, .int .i64 fr, .int .i64 tz] := by rw [hw1]; exact heap_alloc_new w _
  have K1 : Hid (Kept (fun _ => True) w w1) := by rw [hw1]; exact (Kept.refl _ _).alloc _
  obtain ⟨x0, x1, x2, x3, x4, x5, x6, x7⟩ := F1.eight
  clear F1
  go_enter Try.func18, Try.ntmps18
  go_upto_region 1 with fail
  rw [← hw1]
  clear hw1
  generalize w.heap.size = X at *
  go_wp2_with fail
  go_ret
  exact ⟨rfl, K1.out⟩

def befP (a b : Pc) : Bool := decide (0 ≤ a.tz) && decide (a.tz < b.fr) && !decide (a.fr = b.fr)
set_option maxRecDepth 100000 in
set_option maxHeartbeats 4000000 in
theorem before_any (w : World) (x y : Oc) : Calls Try.prog 8 #[.agg (occ x).toArray, .agg (occ y).toArray] w fun e w' => e = .returned (.bool (befP x.pc y.pc)) ∧ Kept (fun _ => True) w w' := by
  have CWt := fun W => waits_any W x
  obtain ⟨cl, oa, on, oc, out, ta, tn, tc, ix, why, fr, tz⟩ := x
  obtain ⟨cl', oa', on', oc', out', ta', tn', tc', ix', why', fr', tz'⟩ := y
  unfold occ befP Oc.pc at *
  simp only at *
  obtain ⟨w1, hw1⟩ : ∃ x, x = (w.alloc (.cells #[.int .i64 cl, .slice oa on oc, .int .i64 out, .slice ta tn tc, .int .i64 ix, .int .i64 why, .int .i64 fr, .int .i64 tz] 35)).alloc (.cells #[.int .i64 cl', .slice oa' on' oc', .int .i64 out', .slice ta' tn' tc', .int .i64 ix', .int .i64 why', .int .i64 fr', .int .i64 tz'] 35) := ⟨_, rfl⟩
  have F1 : Bk w1 w.heap.size 35 [.int .i64 cl, .slice oa on oc, .int .i64 out, .slice ta tn tc, .int .i64 ix, .int .i64 why, .int .i64 fr, .int .i64 tz] := by rw [hw1]; exact alloc_old _ (heap_alloc_new w _)
  have F2 : Bk w1 (w.heap.size + 1) 35 [.int .i64 cl', .slice oa' on' oc', .int .i64 out', .slice ta' tn' tc', .int .i64 ix', .int .i64 why', .int .i64 fr', .int .i64 tz'] := by
    rw [hw1]
    have := heap_alloc_new (w.alloc (.cells #[.int .i64 cl, .slice oa on oc, .int .i64 out, .slice ta tn tc, .int .i64 ix, .int .i64 why, .int .i64 fr, .int .i64 tz] 35)) (.cells #[.int .i64 cl', .slice oa' on' oc', .int .i64 out', .slice ta' tn' tc', .int .i64 ix', .int .i64 why', .int .i64 fr', .int .i64 tz'] 35)
    rwa [heap_size_alloc] at this
  obtain ⟨R, hR⟩ : ∃ R, R = (decide (0 ≤ tz) && decide (tz < fr') && !decide (fr = fr')) := ⟨_, rfl⟩
  rw [← hR]
  have K1 : Hid (Kept (fun _ => True) w w1) := by rw [hw1]; exact ((Kept.refl _ _).alloc _).alloc _
  have HF1 : Hid (Bk w1 w.heap.size 35 [.int .i64 cl, .slice oa on oc, .int .i64 out, .slice ta tn tc, .int .i64 ix, .int .i64 why, .int .i64 fr, .int .i64 tz]) := F1
  have HF2 : Hid (Bk w1 (w.heap.size + 1) 35 [.int .i64 cl', .slice oa' on' oc', .int .i64 out', .slice ta' tn' tc', .int .i64 ix', .int .i64 why', .int .i64 fr', .int .i64 tz']) := F2
  obtain ⟨x0, x1, x2, x3, x4, x5, x6, x7⟩ := F1.eight
  clear F1 F2
  go_enter Try.func8, Try.ntmps8
  go_upto_region 1 with fail
  rw [← hw1]
  clear hw1
  generalize w.heap.size = X at *
  have CW1 := CWt w1
  clear CWt
  by_cases h0 : tz < 0
  · have e0 : decide (tz < 0) = true := decide_eq_true h0
    have e1 : decide (0 ≤ tz) = false := decide_eq_false (by omega)
    rw [e0] at CW1
    obtain rfl : R = false := by rw [hR, e1]; rfl
    clear hR e0 e1
    go_wp2_with (go_at_call 18; (with_reducible refine Calls.mono CW1 ?_); rintro e w2 ⟨rfl, k2⟩)
    go_ret
    exact ⟨rfl, K1.out.trans k2⟩
  · have e0 : decide (tz < 0) = false := decide_eq_false h0
    have e1 : decide (0 ≤ tz) = true := decide_eq_true (by omega)
    rw [e0] at CW1
    by_cases h1 : tz < fr'
    · have e2 : decide (tz < fr') = true := decide_eq_true h1
      by_cases h2 : fr = fr'
      · have e3 : (fr != fr') = false := by simp [h2]
        have e4 : decide (fr = fr') = true := decide_eq_true h2
        obtain rfl : R = false := by rw [hR, e1, e2, e4]; rfl
        clear hR e0 e1 e2 h2 e4
        go_wp2_with (go_at_call 18; (with_reducible refine Calls.mono CW1 ?_); rintro e w2 ⟨rfl, k2⟩; obtain ⟨y0, y1, y2, y3, y4, y5, y6, y7⟩ := (HF1.out.kept k2 trivial).eight; obtain ⟨z0, z1, z2, z3, z4, z5, z6, z7⟩ := (HF2.out.kept k2 trivial).eight)
        go_ret
        exact ⟨rfl, K1.out.trans k2⟩
      · have e3 : (fr != fr') = true := by simp [h2]
        have e4 : decide (fr = fr') = false := decide_eq_false h2
        obtain rfl : R = true := by rw [hR, e1, e2, e4]; rfl
        clear hR e0 e1 e2 h2 e4
        go_wp2_with (go_at_call 18; (with_reducible refine Calls.mono CW1 ?_); rintro e w2 ⟨rfl, k2⟩; obtain ⟨y0, y1, y2, y3, y4, y5, y6, y7⟩ := (HF1.out.kept k2 trivial).eight; obtain ⟨z0, z1, z2, z3, z4, z5, z6, z7⟩ := (HF2.out.kept k2 trivial).eight)
        go_ret
        exact ⟨rfl, K1.out.trans k2⟩
    · have e2 : decide (tz < fr') = false := decide_eq_false h1
      obtain rfl : R = false := by rw [hR, e1, e2]; rfl
      clear hR e0 e1 e2
      go_wp2_with (go_at_call 18; (with_reducible refine Calls.mono CW1 ?_); rintro e w2 ⟨rfl, k2⟩; obtain ⟨y0, y1, y2, y3, y4, y5, y6, y7⟩ := (HF1.out.kept k2 trivial).eight; obtain ⟨z0, z1, z2, z3, z4, z5, z6, z7⟩ := (HF2.out.kept k2 trivial).eight)
      go_ret
      exact ⟨rfl, K1.out.trans k2⟩

def hasP (n : Int) (x : Pc) : Bool := if n = 0 then decide (x.tz < 0) else decide (x.out = n)
set_option maxRecDepth 100000 in
set_option maxHeartbeats 4000000 in
theorem has_any (w : World) (x : Oc) (n : Int) : Calls Try.prog 19 #[.agg (occ x).toArray, .int .i64 n] w fun e w' => e = .returned (.bool (hasP n x.pc)) ∧ Kept (fun _ => True) w w' := by
  have CWt := fun W => waits_any W x
  obtain ⟨cl, oa, on, oc, out, ta, tn, tc, ix, why, fr, tz⟩ := x
  unfold occ hasP Oc.pc at *
  simp only at *
  obtain ⟨w1, hw1⟩ : ∃ x, x = w.alloc (.cells #[.int .i64 cl, .slice oa on oc, .int .i64 out, .slice ta tn tc, .int .i64 ix, .int .i64 why, .int .i64 fr, .int .i64 tz] 35) := ⟨_, rfl⟩
  have F1 : Bk w1 w.heap.size 35 [.int .i64 cl, .slice oa on oc, .int .i64 out, .slice ta tn tc, .int .i64 ix, .int .i64 why, .int .i64 fr, .int .i64 tz] := by rw [hw1]; exact heap_alloc_new w _
  have K1 : Hid (Kept (fun _ => True) w w1) := by rw [hw1]; exact (Kept.refl _ _).alloc _
  obtain ⟨x0, x1, x2, x3, x4, x5, x6, x7⟩ := F1.eight
  clear F1
  obtain ⟨R, hR⟩ : ∃ R, R = (if n = 0 then decide (tz < 0) else decide (out = n)) := ⟨_, rfl⟩
  rw [← hR]
  go_enter Try.func19, Try.ntmps19
  go_upto_region 1 with fail
  rw [← hw1]
  clear hw1
  generalize w.heap.size = X at *
  have CW1 := CWt w1
  clear CWt
  by_cases hn : n = 0
  · subst hn
    rw [if_pos rfl] at hR
    rw [← hR] at CW1
    clear hR
    go_wp2_with (go_at_call 18; (with_reducible refine Calls.mono CW1 ?_); rintro e w2 ⟨rfl, k2⟩)
    go_ret
    exact ⟨rfl, K1.out.trans k2⟩
  · rw [if_neg hn] at hR
    have e1 : (n == 0) = false := beq_eq_false_iff_ne.2 hn
    have e2 : (out == n) = R := by rw [hR]; by_cases h : out = n <;> simp [h]
    clear hR hn CW1
    go_wp2_with fail
    go_ret
    exact ⟨rfl, K1.out⟩
set_option maxRecDepth 100000 in
set_option maxHeartbeats 4000000 in
theorem count_any {w : World} {al : Option Addr} {cap : Nat} {xs : List Oc} (h : Vw opS w al xs) (hn : xs.length ≤ 1000) (n : Int) :
    Calls Try.prog 9 #[.slice al xs.length cap, .int .i64 n] w fun e w' => e = .returned (.int .i64 ((xs.map Oc.pc).countP (hasP n) : Nat)) ∧ Kept (fun _ => True) w w' := by
  have HC : Hid (Vw opS w al xs) := h
  have HN : Hid (xs.length ≤ 1000) := hn
  clear h hn
  go_enter Try.func9, Try.ntmps9
  go_wp2_with fail
  go_loopw [5, 10] (fun v t wr => ∃ j : Nat, j ≤ xs.length ∧ t = .int .i64 j ∧ v = .int .i64 (((xs.take j).map Oc.pc).countP (hasP n) : Nat) ∧ Kept (fun _ => True) w wr) (fun _ t _ => xs.length - (intOf t).toNat)
  case atStart => exact ⟨0, Nat.zero_le _, rfl, rfl, Kept.refl _ _⟩
  case round =>
    obtain ⟨j, hj, rfl, rfl, hk⟩ := hrel
    obtain ⟨wB, hwB⟩ : ∃ x, x = wr := ⟨_, rfl⟩
    rw [← hwB] at hk ⊢
    clear hwB
    have HK : Hid (Kept (fun _ => True) w wB) := hk
    by_cases hlt : j < xs.length
    · have HCr : Hid (Vw opS wB al xs) := HC.out.all hk
      obtain ⟨gb, go, rfl, hgb, hgr⟩ := HCr.out.row (by omega)
      have hr := hgr j hlt
      have m0 : wB.cell? ⟨gb, go + j * 8, none⟩ = some (.int .i64 xs[j].cl) := hr 0 _ rfl
      have m1 : wB.cell? ⟨gb, go + j * 8 + 1, none⟩ = some (.slice xs[j].oa xs[j].on xs[j].oc) := hr 1 _ rfl
      have m2 : wB.cell? ⟨gb, go + j * 8 + 2, none⟩ = some (.int .i64 xs[j].out) := hr 2 _ rfl
      have m3 : wB.cell? ⟨gb, go + j * 8 + 3, none⟩ = some (.slice xs[j].ta xs[j].tn xs[j].tc) := hr 3 _ rfl
      have m4 : wB.cell? ⟨gb, go + j * 8 + 4, none⟩ = some (.int .i64 xs[j].ix) := hr 4 _ rfl
      have m5 : wB.cell? ⟨gb, go + j * 8 + 5, none⟩ = some (.int .i64 xs[j].why) := hr 5 _ rfl
      have m6 : wB.cell? ⟨gb, go + j * 8 + 6, none⟩ = some (.int .i64 xs[j].fr) := hr 6 _ rfl
      have m7 : wB.cell? ⟨gb, go + j * 8 + 7, none⟩ = some (.int .i64 xs[j].tz) := hr 7 _ rfl
      have HT : Hid (((xs.take (j + 1)).map Oc.pc).countP (hasP n) = ((xs.take j).map Oc.pc).countP (hasP n) + if hasP n xs[j].pc = true then 1 else 0) := by
        show _ = _
        rw [List.take_succ_eq_append_getElem hlt, List.map_append, List.countP_append]
        simp [List.countP_cons]
      have HL : Hid (((xs.take j).map Oc.pc).countP (hasP n) ≤ 1000) := by
        have h1 := List.countP_le_length (p := hasP n) (l := (xs.take j).map Oc.pc)
        rw [List.length_map, List.length_take] at h1
        have h2 := HN.out
        show _ ≤ _
        omega
      have HJ : Hid (j < xs.length) := hlt
      have i0 : (0 : Int) ≤ (j : Int) := by omega
      have i1 : (j : Int) < (xs.length : Int) := by omega
      have j1 : (j : Int) + 1 ≤ 9223372036854775807 := by have := HN.out; omega
      have CH := fun W => has_any W xs[j] n
      clear hr hgr hk hj HCr
      generalize xs[j] = x at *
      obtain ⟨cl, oa, on, oc, out, ta, tn, tc, ix, why, fr, tz⟩ := x
      unfold occ at CH
      simp only at m0 m1 m2 m3 m4 m5 m6 m7 CH
      clear hlt
      generalize hv : ((xs.take j).map Oc.pc).countP (hasP n) = V at *
      have hV : (V : Int) + 1 ≤ 9223372036854775807 := by have := HL.out; omega
      have hV0 : (0 : Int) ≤ (V : Int) := by omega
      obtain ⟨w2, hw2⟩ : ∃ x, x = wB.alloc (.cells #[.int .i64 cl, .slice oa on oc, .int .i64 out, .slice ta tn tc, .int .i64 ix, .int .i64 why, .int .i64 fr, .int .i64 tz] 35) := ⟨_, rfl⟩
      have K2 : Hid (Kept (fun _ => True) wB w2) := by rw [hw2]; exact (Kept.refl _ _).alloc _
      have F2 : Bk w2 wB.heap.size 35 [.int .i64 cl, .slice oa on oc, .int .i64 out, .slice ta tn tc, .int .i64 ix, .int .i64 why, .int .i64 fr, .int .i64 tz] := by rw [hw2]; exact heap_alloc_new wB _
      obtain ⟨f0, f1, f2, f3, f4, f5, f6, f7⟩ := F2.eight
      go_upto_region 5 with fail
      rw [← hw2]
      clear hw2 m0 m1 m2 m3 m4 m5 m6 m7 F2
      generalize wB.heap.size = P at *
      have CH2 := CH w2
      clear CH
      cases hp : hasP n (Oc.pc ⟨cl, oa, on, oc, out, ta, tn, tc, ix, why, fr, tz⟩) with
      | true =>
        rw [hp] at CH2
        have HT2 : Hid (((xs.take (j + 1)).map Oc.pc).countP (hasP n) = V + 1) := by show _ = _; rw [HT.out, hp]; rfl
        clear hp HT
        go_wp2_with (go_at_call 19; (with_reducible refine Calls.mono CH2 ?_); rintro e w3 ⟨rfl, k3⟩)
        go_roundw
        case rel => exact ⟨j + 1, HJ.out, by go_num, by rw [HT2.out]; go_num, (HK.out.trans K2.out).trans k3⟩
        case measure => have := HJ.out; simp [intOf]; omega
      | false =>
        rw [hp] at CH2
        have HT2 : Hid (((xs.take (j + 1)).map Oc.pc).countP (hasP n) = V) := by show _ = _; rw [HT.out, hp]; rfl
        clear hp HT
        go_wp2_with (go_at_call 19; (with_reducible refine Calls.mono CH2 ?_); rintro e w3 ⟨rfl, k3⟩)
        go_roundw
        case rel => exact ⟨j + 1, HJ.out, by go_num, by rw [HT2.out], (HK.out.trans K2.out).trans k3⟩
        case measure => have := HJ.out; simp [intOf]; omega
    · obtain rfl : j = xs.length := by omega
      clear hlt hj hk
      go_wp2_with fail
      go_ret
      exact ⟨by rw [List.take_length]; rfl, HK.out⟩

end Go.Proofs.Ytllopkebamlgeaa
