/-
  RangesLoads.
-/
import Derived.Test.YtclgdgdponoomaaMBx
import Derived.Test.YtclgdgdponoomaaM9
import Derived.Test.YtclgdgdponoomaaSWithin
namespace Go.Proofs.Ytclgdgdponoomaa
open Go.RowKit

set_option maxRecDepth 100000 in
set_option maxHeartbeats 2000000 in
theorem rangesLoads_any {w : World} {a0 : Option Addr} {cap0 : Nat} {bs : List UInt8} (hS : Has w a0 bs) (hb : (bs.length : Int) ≤ 140737488355328) (groups at_ turn : Int) (ht : 0 ≤ turn ∧ turn < 256) :
    Calls Try.prog 6 #[.slice a0 bs.length cap0, .int .i64 groups, .int .i64 at_, .int .u8 turn] w fun e w' => e = .returned (.bool true) ∧ Kept (fun _ => True) w w' := by
  have HB : Hid (Has w a0 bs) := hS
  have HT : Hid (0 ≤ turn ∧ turn < 256) := ht
  clear hS ht
  go_enter Try.func6, Try.ntmps6
  go_wp2_with fail
  refine Calls.mono (within_any groups 2 (by decide)) ?_
  rintro e w0 ⟨⟨k, hk, rfl⟩, hw⟩
  obtain rfl : w = w0 := hw.symm
  have cn := new_one (w := w) k hk
  have hl := rgt_most (rgt_iff.1 (new_rgt hk)).2.2
  generalize newP (1 + k) = ps at *
  go_wp2_with fail
  with_reducible refine Calls.mono cn ?_
  rintro e w1 ⟨a1, p1, rfl, v1, k1⟩
  have b1 := Bx.made (cap := p1) (ep := 1) v1
  have kA : Kept (fun _ => True) w (w1.alloc (.cells #[.int .i64 1, .slice a1 ps.length p1] 24)) := k1.alloc _
  have cs := save_any (cap := p1) (ep := 1) b1.view (by omega)
  have hsl := savedM_length 1 ps
  have K1 : Hid (Kept (fun _ => True) w (w1.alloc (.cells #[.int .i64 1, .slice a1 ps.length p1] 24))) := kA
  clear cn v1 k1 b1 kA
  generalize savedM 1 ps = sv at *
  obtain ⟨L, hLe⟩ : ∃ L, sv.length = L + 1 := ⟨sv.length - 1, by omega⟩
  rw [hLe] at cs hsl
  have HLe : Hid (sv.length = L + 1) := hLe
  have hL1 : L ≤ 7000 := by omega
  clear hLe hsl
  go_wp2_with fail
  with_reducible refine Calls.mono cs ?_
  rintro e w2 ⟨D, rfl, h2, k2, l2⟩
  have B2 : Hid (Blm w2 D sv) := h2
  have K2 : Hid (Kept (fun _ => True) w w2 ∧ w.heap.size ≤ D) := ⟨K1.out.trans k2, Nat.le_trans K1.out.size l2⟩
  clear h2 k2 l2 cs K1
  go_wp2_with fail
  have cw := within_any (w := w2) at_ L (by omega)
  with_reducible refine Calls.mono cw ?_
  rintro e w0 ⟨⟨q, hq, rfl⟩, hw⟩
  obtain rfl : w2 = w0 := hw.symm
  have q0 := B2.out.cell q (by rw [HLe.out]; omega)
  have qf : w2.frozen? ⟨D, q, none⟩ = false := by have := B2.out; unfold Blm at this; simp [World.frozen?, this]
  obtain ⟨y, hy⟩ := xoredm (sv[q]'(by rw [HLe.out]; omega)) turn HT.out
  have qk1 : (q : Int) < (L : Int) + 1 := by omega
  have qk0 : (0 : Int) ≤ (q : Int) := by omega
  have B3 : Hid (Blm (w2.setCell ⟨D, q, none⟩ (.int .u8 y.toNat)) D (sv.set q y)) := B2.out.set q y
  have K3 : Hid (Kept (fun _ => True) w (w2.setCell ⟨D, q, none⟩ (.int .u8 y.toNat))) := K2.out.1.setFresh K2.out.2 _
  have hL : Hid ((sv.set q y).length = L + 1) := by show _ = _; rw [List.length_set]; exact HLe.out
  generalize sv[q]'(by rw [HLe.out]; omega) = z at *
  generalize sv.set q y = sv' at *
  clear B2 HLe
  have k4 : Kept (fun _ => True) (w2.setCell ⟨D, q, none⟩ (.int .u8 y.toNat)) ((w2.setCell ⟨D, q, none⟩ (.int .u8 y.toNat)).alloc (.cells #[.slice a0 bs.length cap0, .slice (some ⟨D, 0, none⟩) (L + 1) (L + 1)] 34)) := (Kept.refl _ _).alloc _
  have h4 := heap_alloc_new (w2.setCell ⟨D, q, none⟩ (.int .u8 y.toNat)) (.cells #[.slice a0 bs.length cap0, .slice (some ⟨D, 0, none⟩) (L + 1) (L + 1)] 34)
  rw [show (w2.setCell ⟨D, q, none⟩ (.int .u8 y.toNat)).heap.size = w2.heap.size by simp [World.setCell]] at h4
  have B4 : Hid (Blm _ D sv') := B3.out.kept k4 trivial
  have K4 : Hid (Kept (fun _ => True) w _) := K3.out.trans k4
  have H4 : Hid (Has _ a0 bs) := HB.out.kept K4.out (fun _ _ => trivial)
  have H5 : Hid _ := h4
  clear k4 B3 K3 h4
  go_wp2_with fail
  generalize (w2.setCell ⟨D, q, none⟩ (.int .u8 y.toNat)).alloc (.cells #[.slice a0 bs.length cap0, .slice (some ⟨D, 0, none⟩) (L + 1) (L + 1)] 34) = w4 at *
  obtain ⟨s0, s1⟩ := mtwo_cell H5.out
  have C4 : Hid (w4.cell? ⟨w2.heap.size, 0, none⟩ = some (.slice a0 bs.length cap0) ∧ w4.cell? ⟨w2.heap.size, 1, none⟩ = some (.slice (some ⟨D, 0, none⟩) (L + 1) (L + 1))) := ⟨s0, s1⟩
  have l4 := lt_of_block H5.out
  clear H5 s0 s1 q0 qf hy
  generalize w2.heap.size = S0 at *
  have L4 : Hid (S0 < w4.heap.size) := l4
  clear l4
  go_loopw [49] (fun t wr => ∃ i : Nat, i ≤ 2 ∧ t = .int .i64 i ∧ Kept (fun _ => True) w4 wr) (fun t _ => 2 - (intOf t).toNat)
  case atStart => exact ⟨0, by omega, rfl, Kept.refl _ _⟩
  case round =>
    obtain ⟨i, hi, rfl, ki⟩ := hrel
    have KI : Hid (Kept (fun _ => True) w4 wr) := ki
    have s0 := (kept_cell ki L4.out trivial).trans C4.out.1
    have s1 := (kept_cell ki L4.out trivial).trans C4.out.2
    have c0 := load_any (cap := cap0) hb (H4.out.kept ki (fun _ _ => trivial))
    have c1 := load_any (bs := sv') (cap := L + 1) (by have := hL.out; omega) ((B4.out.kept ki trivial).has)
    rw [hL.out] at c1
    clear ki
    have hcases : (i < 2 ∧ Hid (i = 0)) ∨ (i < 2 ∧ Hid (i = 1)) ∨ i = 2 := by
      have : i = 0 ∨ i = 1 ∨ i = 2 := by omega
      rcases this with h | h | h
      · exact .inl ⟨by omega, h⟩
      · exact .inr (.inl ⟨by omega, h⟩)
      · exact .inr (.inr h)
    rcases hcases with ⟨h2, h0⟩ | ⟨h2, h0⟩ | h2
    · have si : wr.cell? ⟨S0, i, none⟩ = some (.slice a0 bs.length cap0) := by rw [h0.out]; exact s0
      have i2 : (i : Int) < 2 := by omega
      have i0 : (0 : Int) ≤ (i : Int) := by omega
      clear s0 s1 c1
      go_wp2_with fail
      with_reducible refine Calls.mono c0 ?_
      rintro e w5 ⟨h5, k5⟩
      clear c0
      rcases h5 with ⟨-, rfl⟩ | ⟨ep5, ps5, a5, p5, hl5, rfl, ho5⟩
      · have cr := right_any (w := w5.alloc (.cells #[.int .i64 0, .slice none 0 0] 24)) (ao := none) (cap := 0) (ep := 0) (ps := []) (Pv.nil _ _) (by decide)
        rw [show rgt 0 [] = false from rfl] at cr
        simp only [List.length_nil] at cr
        have K5 : Hid (Kept (fun _ => True) w4 (w5.alloc (.cells #[.int .i64 0, .slice none 0 0] 24))) := (KI.out.trans k5).alloc _
        clear k5
        go_wp2_with (go_at_call 16; (with_reducible refine Calls.mono cr ?_); rintro e w6 ⟨rfl, k6⟩; have K6 : Hid _ := K5.out.trans k6; clear k6)
        go_roundw
        case rel => exact ⟨i + 1, by omega, by go_num, K6.out⟩
        case measure => simp [intOf]; omega
      · have hr5 := loadM_rgt hl5
        have hm5 := rgt_most (rgt_iff.1 hr5).2.2
        have cr := right_any (cap := p5) (ep := ep5) (ho5.view.all ((Kept.refl _ _).alloc (.cells #[.int .i64 ep5, .slice a5 ps5.length p5] 24))) (by omega)
        rw [hr5] at cr
        have K5 : Hid (Kept (fun _ => True) w4 (w5.alloc (.cells #[.int .i64 ep5, .slice a5 ps5.length p5] 24))) := (KI.out.trans k5).alloc _
        clear k5 hl5 hr5 hm5 ho5
        go_wp2_with (go_at_call 16; (with_reducible refine Calls.mono cr ?_); rintro e w6 ⟨rfl, k6⟩; have K6 : Hid _ := K5.out.trans k6; clear k6)
        go_roundw
        case rel => exact ⟨i + 1, by omega, by go_num, K6.out⟩
        case measure => simp [intOf]; omega
    · have si : wr.cell? ⟨S0, i, none⟩ = some (.slice (some ⟨D, 0, none⟩) (L + 1) (L + 1)) := by rw [h0.out]; exact s1
      have i2 : (i : Int) < 2 := by omega
      have i0 : (0 : Int) ≤ (i : Int) := by omega
      clear s0 s1 c0
      go_wp2_with fail
      with_reducible refine Calls.mono c1 ?_
      rintro e w5 ⟨h5, k5⟩
      clear c1
      rcases h5 with ⟨-, rfl⟩ | ⟨ep5, ps5, a5, p5, hl5, rfl, ho5⟩
      · have cr := right_any (w := w5.alloc (.cells #[.int .i64 0, .slice none 0 0] 24)) (ao := none) (cap := 0) (ep := 0) (ps := []) (Pv.nil _ _) (by decide)
        rw [show rgt 0 [] = false from rfl] at cr
        simp only [List.length_nil] at cr
        have K5 : Hid (Kept (fun _ => True) w4 (w5.alloc (.cells #[.int .i64 0, .slice none 0 0] 24))) := (KI.out.trans k5).alloc _
        clear k5
        go_wp2_with (go_at_call 16; (with_reducible refine Calls.mono cr ?_); rintro e w6 ⟨rfl, k6⟩; have K6 : Hid _ := K5.out.trans k6; clear k6)
        go_roundw
        case rel => exact ⟨i + 1, by omega, by go_num, K6.out⟩
        case measure => simp [intOf]; omega
      · have hr5 := loadM_rgt hl5
        have hm5 := rgt_most (rgt_iff.1 hr5).2.2
        have cr := right_any (cap := p5) (ep := ep5) (ho5.view.all ((Kept.refl _ _).alloc (.cells #[.int .i64 ep5, .slice a5 ps5.length p5] 24))) (by omega)
        rw [hr5] at cr
        have K5 : Hid (Kept (fun _ => True) w4 (w5.alloc (.cells #[.int .i64 ep5, .slice a5 ps5.length p5] 24))) := (KI.out.trans k5).alloc _
        clear k5 hl5 hr5 hm5 ho5
        go_wp2_with (go_at_call 16; (with_reducible refine Calls.mono cr ?_); rintro e w6 ⟨rfl, k6⟩; have K6 : Hid _ := K5.out.trans k6; clear k6)
        go_roundw
        case rel => exact ⟨i + 1, by omega, by go_num, K6.out⟩
        case measure => simp [intOf]; omega
    · have i2 : ¬ (i : Int) < 2 := by omega
      clear s0 s1 c0 c1
      go_wp2_with fail
      refine Calls.mono (known_any _) ?_
      rintro e w5 ⟨rfl, k5⟩
      go_wp2
      go_ret
      exact ⟨rfl, K4.out.trans (KI.out.trans k5)⟩

end Go.Proofs.Ytclgdgdponoomaa
