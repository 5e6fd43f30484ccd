/-
  RangesMoves.
-/
import Derived.Test.YtclgdgdponoomaaMBx
import Derived.Test.YtclgdgdponoomaaM5
import Derived.Test.YtclgdgdponoomaaSWithin
import Derived.Test.YtclgdgdponoomaaMArgs
namespace Go.Proofs.Ytclgdgdponoomaa
open Go.RowKit

theorem upd_two (f : Nat → Int) (lo hi g : Int) (h : Nat) : upd f lo hi g h = f h ∨ upd f lo hi g h = g := by
  unfold upd
  split
  · exact .inr rfl
  · exact .inl rfl

set_option maxRecDepth 100000 in
set_option maxHeartbeats 4000000 in
theorem rangesMoves_any {w : World} (groups lo hi group : Int) {a : Option Addr} {cap : Nat} {ss : List (List UInt8)} (hS : IsNames w a ss ∧ ∀ s ∈ ss, s.length ≤ 140737488355328) :
    Calls Try.prog 5 #[.int .i64 groups, .int .i64 lo, .int .i64 hi, .int .i64 group, .slice a ss.length cap] w fun e w' => e = .returned (.bool true) ∧ Kept (fun _ => True) w w' := by
  have HS : Hid (IsNames w a ss ∧ ∀ s ∈ ss, s.length ≤ 140737488355328) := hS
  clear hS
  go_enter Try.func5, Try.ntmps5
  go_wp2_with fail
  refine Calls.mono (within_any groups 2 (by decide)) ?_
  rintro e w0 ⟨⟨k, hk, rfl⟩, hw⟩
  obtain rfl : w = w0 := hw.symm
  clear hw
  have cn := new_one (w := w) k hk
  have hr0 := new_rgt hk
  generalize newP (1 + k) = ps at *
  go_wp2_with fail
  with_reducible refine Calls.mono cn ?_
  rintro e w1 ⟨a1, p1, rfl, v1, k1⟩
  have b1 := Bx.made (cap := p1) (ep := 1) v1
  have K1 : Hid (Kept (fun _ => True) w (w1.alloc (.cells #[.int .i64 1, .slice a1 ps.length p1] 24))) := k1.alloc _
  have HB1 : Hid (Bx _ _ _ _ _ _) := b1
  clear cn v1 k1 b1
  go_wp2_with fail
  generalize w1.alloc (.cells #[.int .i64 1, .slice a1 ps.length p1] 24) = w2 at *
  generalize w1.heap.size = X1 at *
  refine Calls.mono (within_any lo 255 (by decide)) ?_
  rintro e w0 ⟨⟨l, hl, rfl⟩, hw⟩
  obtain rfl : w2 = w0 := hw.symm
  clear hw
  have cw := within_any (w := w2) hi (255 - l) (by omega)
  rw [show ((255 - l : Nat) : Int) = 255 - (l : Int) by omega] at cw
  go_wp2_with fail
  with_reducible refine Calls.mono cw ?_
  rintro e w0 ⟨⟨q, hq, rfl⟩, hw⟩
  obtain rfl : w2 = w0 := hw.symm
  clear hw cw
  go_wp2_with fail
  refine Calls.mono (within_any group 2 (by decide)) ?_
  rintro e w0 ⟨⟨g, hg, rfl⟩, hw⟩
  obtain rfl : w2 = w0 := hw.symm
  clear hw
  have cm := move_any (cap := p1) HB1.out.view (l : Int) ((l : Int) + 1 + (q : Int)) (g : Int) hr0 (by decide) (by omega) (by omega) (by omega) (isG_iff.2 ⟨by omega, by omega⟩)
  obtain ⟨-, -, hE0⟩ := rgt_iff.1 hr0
  have hr1 : rgt 2 (pcs (upd (ownH ps) l ((l : Int) + 1 + q) g) 256) = true := rgt_iff.2 ⟨by decide, by decide, rgt_pcs (upd_gs (rgt_gs hE0) (by omega) (by omega))⟩
  have ho1 : ∀ h, h < 256 → ownH (pcs (upd (ownH ps) l ((l : Int) + 1 + q) g) 256) h = ownH ps h ∨ ownH (pcs (upd (ownH ps) l ((l : Int) + 1 + q) g) 256) h = g := fun h hh => by
    rw [own_pcs _ _ _ hh]
    exact upd_two _ _ _ _ _
  have HO1 : Hid (∀ h, h < 256 → ownH (pcs (upd (ownH ps) l ((l : Int) + 1 + q) g) 256) h = ownH ps h ∨ ownH (pcs (upd (ownH ps) l ((l : Int) + 1 + q) g) 256) h = g) := ho1
  clear ho1 hE0
  generalize pcs (upd (ownH ps) l ((l : Int) + 1 + q) g) 256 = ps2 at *
  have hm2 := rgt_most (rgt_iff.1 hr1).2.2
  have hm1 := rgt_most (rgt_iff.1 hr0).2.2
  obtain ⟨x0, x1⟩ := HB1.out.cells
  simp only [Int.reduceAdd] at cm
  go_wp2_with fail
  with_reducible refine Calls.mono cm ?_
  rintro e w3 ⟨a2, p2, rfl, ho2, k2⟩
  have b2 := Bx.made (cap := p2) (ep := 2) ho2.view
  have HB2 : Hid (Bx _ _ _ _ _ _) := b2
  have HB1' : Hid (Bx (w3.alloc (.cells #[.int .i64 2, .slice a2 ps2.length p2] 24)) X1 a1 p1 1 ps) := HB1.out.all (k2.alloc _)
  have K2 : Hid (Kept (fun _ => True) w (w3.alloc (.cells #[.int .i64 2, .slice a2 ps2.length p2] 24))) := K1.out.trans (k2.alloc _)
  have cr := right_any (cap := p2) (ep := 2) b2.view (by omega)
  rw [hr1] at cr
  obtain ⟨y0, y1⟩ := HB2.out.cells
  obtain ⟨z0, z1⟩ := HB1'.out.cells
  clear cm ho2 k2 b2 x0 x1 HB1 K1
  go_wp2_with fail
  generalize w3.alloc (.cells #[.int .i64 2, .slice a2 ps2.length p2] 24) = w4 at *
  generalize w3.heap.size = X2 at *
  with_reducible refine Calls.mono cr ?_
  rintro e w5 ⟨rfl, k5⟩
  have HB3 : Hid (Bx w5 X2 a2 p2 2 ps2) := HB2.out.all k5
  have HB4 : Hid (Bx w5 X1 a1 p1 1 ps) := HB1'.out.all k5
  have K5 : Hid (Kept (fun _ => True) w w5) := K2.out.trans k5
  have cm := move_any (cap := p2) HB3.out.view 0 256 1 hr1 (by decide) (by decide) (by decide) (by decide) (by decide)
  rw [pcs_const (upd_all _ 1)] at cm
  simp only [List.length_singleton, Int.reduceAdd] at cm
  obtain ⟨u0, u1⟩ := HB3.out.cells
  clear cr k5 HB2 HB1' K2 y0 y1 z0 z1
  go_wp2_with fail
  with_reducible refine Calls.mono cm ?_
  rintro e w6 ⟨a3, p3, rfl, ho3, k6⟩
  have b3 := Bx.made (cap := p3) (ep := 3) (ps := [⟨0, 256, 1⟩]) ho3.view
  simp only [List.length_singleton] at b3
  have kA : Kept (fun _ => True) w5 (w6.alloc (.cells #[.int .i64 3, .slice a3 1 p3] 24)) := k6.alloc _
  have HB5 : Hid (Bx (w6.alloc (.cells #[.int .i64 3, .slice a3 1 p3] 24)) w6.heap.size a3 p3 3 [⟨0, 256, 1⟩]) := b3
  have HB6 : Hid (Bx (w6.alloc (.cells #[.int .i64 3, .slice a3 1 p3] 24)) X2 a2 p2 2 ps2) := HB3.out.all kA
  have HB7 : Hid (Bx (w6.alloc (.cells #[.int .i64 3, .slice a3 1 p3] 24)) X1 a1 p1 1 ps) := HB4.out.all kA
  have K7 : Hid (Kept (fun _ => True) w (w6.alloc (.cells #[.int .i64 3, .slice a3 1 p3] 24))) := K5.out.trans kA
  clear cm ho3 k6 b3 kA HB3 HB4 K5 u0 u1
  go_wp2_with fail
  generalize w6.alloc (.cells #[.int .i64 3, .slice a3 1 p3] 24) = w7 at *
  generalize w6.heap.size = X3 at *
  go_loopw [17] (fun t wr => ∃ i : Nat, i ≤ 20 ∧ t = .int .i64 i ∧ Kept (fun _ => True) w7 wr) (fun t _ => 20 - (intOf t).toNat)
  case atStart => exact ⟨0, by omega, rfl, Kept.refl _ _⟩
  case round =>
    obtain ⟨i, hi20, rfl, ki⟩ := hrel
    have KI : Hid (Kept (fun _ => True) w7 wr) := ki
    clear ki
    by_cases hlt : i < ss.length ∧ i < 20
    · obtain ⟨b, off, rfl, hb, hc⟩ := (HS.out.1.all (K7.out.trans KI.out)).row (by omega)
      have c0 := hc i hlt.1
      have hsl := HS.out.2 ss[i] (List.getElem_mem _)
      generalize ss[i] = s at *
      have g1 : (i : Int) < (ss.length : Int) := by omega
      have g2 : (i : Int) < 20 := by omega
      have g0 : (0 : Int) ≤ (i : Int) := by omega
      have hh := hashOf_lt s
      have O1 : ∀ W, Kept (fun _ => True) wr W → Calls Try.prog 11 #[.agg #[.int .i64 1, .slice a1 ps.length p1], .string ⟨s.toArray⟩] W fun e w' => e = .returned (.tuple #[.int .i64 (ownH ps (hashOf s)), .bool true]) ∧ Kept (fun _ => True) W w' := fun W q => Owner_any (HB7.out.view.all (KI.out.trans q)) (by omega) s (by omega) hr0
      have O2 : ∀ W, Kept (fun _ => True) wr W → Calls Try.prog 11 #[.agg #[.int .i64 2, .slice a2 ps2.length p2], .string ⟨s.toArray⟩] W fun e w' => e = .returned (.tuple #[.int .i64 (ownH ps2 (hashOf s)), .bool true]) ∧ Kept (fun _ => True) W w' := fun W q => Owner_any (HB6.out.view.all (KI.out.trans q)) (by omega) s (by omega) hr1
      have O3 : ∀ W, Kept (fun _ => True) wr W → Calls Try.prog 11 #[.agg #[.int .i64 3, .slice a3 1 p3], .string ⟨s.toArray⟩] W fun e w' => e = .returned (.tuple #[.int .i64 1, .bool true]) ∧ Kept (fun _ => True) W w' := fun W q => by
        have := Owner_any (cap := p3) (ep := 3) (HB5.out.view.all (KI.out.trans q)) (by decide) s (by omega) (by decide)
        rw [show ownH [⟨0, 256, 1⟩] (hashOf s) = 1 by simp [ownH]; omega] at this
        exact this
      have hor := HO1.out (hashOf s) hh
      have HH : Hid ((∀ W, Kept (fun _ => True) wr W → Calls Try.prog 11 #[.agg #[.int .i64 1, .slice a1 ps.length p1], .string ⟨s.toArray⟩] W fun e w' => e = .returned (.tuple #[.int .i64 (ownH ps (hashOf s)), .bool true]) ∧ Kept (fun _ => True) W w') ∧ (∀ W, Kept (fun _ => True) wr W → Calls Try.prog 11 #[.agg #[.int .i64 2, .slice a2 ps2.length p2], .string ⟨s.toArray⟩] W fun e w' => e = .returned (.tuple #[.int .i64 (ownH ps2 (hashOf s)), .bool true]) ∧ Kept (fun _ => True) W w') ∧ (∀ W, Kept (fun _ => True) wr W → Calls Try.prog 11 #[.agg #[.int .i64 3, .slice a3 1 p3], .string ⟨s.toArray⟩] W fun e w' => e = .returned (.tuple #[.int .i64 1, .bool true]) ∧ Kept (fun _ => True) W w')) := ⟨O1, O2, O3⟩
      have HB5' := HB5.out.all KI.out
      have HB6' := HB6.out.all KI.out
      have HB7' := HB7.out.all KI.out
      have M0 : ∀ W, Kept (fun _ => True) wr W → W.cell? ⟨X1, 0, none⟩ = some (.int .i64 1) := fun W q => (HB7'.all q).cells.1
      have M1 : ∀ W, Kept (fun _ => True) wr W → W.cell? ⟨X1, 1, none⟩ = some (.slice a1 ps.length p1) := fun W q => (HB7'.all q).cells.2
      have M2 : ∀ W, Kept (fun _ => True) wr W → W.cell? ⟨X2, 0, none⟩ = some (.int .i64 2) := fun W q => (HB6'.all q).cells.1
      have M3 : ∀ W, Kept (fun _ => True) wr W → W.cell? ⟨X2, 1, none⟩ = some (.slice a2 ps2.length p2) := fun W q => (HB6'.all q).cells.2
      have M4 : ∀ W, Kept (fun _ => True) wr W → W.cell? ⟨X3, 0, none⟩ = some (.int .i64 3) := fun W q => (HB5'.all q).cells.1
      have M5 : ∀ W, Kept (fun _ => True) wr W → W.cell? ⟨X3, 1, none⟩ = some (.slice a3 1 p3) := fun W q => (HB5'.all q).cells.2
      have M6 : ∀ W, Kept (fun _ => True) wr W → W.cell? ⟨b, off + i, none⟩ = some (.string ⟨s.toArray⟩) := fun W q => (kept_cell q hb trivial).trans c0
      generalize ownH ps (hashOf s) = z1 at *
      generalize ownH ps2 (hashOf s) = z2 at *
      clear O1 O2 O3 hc c0 hh hsl HB5' HB6' HB7'
      have s0 : Kept (fun _ => True) wr wr := Kept.refl _ _
      go_wp2_with fail
      go_region_held3 (fun W => Kept (fun _ => True) wr W) (first | assumption | (repeat (first | assumption | exact Kept.refl _ _ | refine Kept.drew ?_))) ((go_at_call 11; (with_reducible refine Calls.mono (HH.out.1 _ (by first | assumption | (repeat (first | assumption | exact Kept.refl _ _ | refine Kept.drew ?_)))) ?_); rintro e w8 ⟨rfl, k8⟩; have s8 : Kept (fun _ => True) wr w8 := s0.drew.trans k8; clear k8))
      go_wp2_with fail
      go_region_held3 (fun W => Kept (fun _ => True) wr W) (first | assumption | (repeat (first | assumption | exact Kept.refl _ _ | refine Kept.drew ?_))) ((go_at_call 11; (with_reducible refine Calls.mono (HH.out.2.1 _ (by first | assumption | (repeat (first | assumption | exact Kept.refl _ _ | refine Kept.drew ?_)))) ?_); rintro e w9 ⟨rfl, k9⟩; have s9 : Kept (fun _ => True) wr w9 := s8.drew.trans k9; clear k9))
      go_wp2_with fail
      go_region_held3 (fun W => Kept (fun _ => True) wr W) (first | assumption | (repeat (first | assumption | exact Kept.refl _ _ | refine Kept.drew ?_))) ((go_at_call 11; (with_reducible refine Calls.mono (HH.out.2.2 _ (by first | assumption | (repeat (first | assumption | exact Kept.refl _ _ | refine Kept.drew ?_)))) ?_); rintro e w10 ⟨rfl, k10⟩; have s10 : Kept (fun _ => True) wr w10 := s9.drew.trans k10; clear k10))
      by_cases hz : z2 = z1
      · have hz' : (z2 == z1) = true := by simpa using hz
        clear hor
        go_wp2_with fail
        go_roundw
        case rel => exact ⟨i + 1, by omega, by go_num, KI.out.trans s10⟩
        case measure => simp [intOf]; omega
      · obtain rfl : z2 = (g : Int) := hor.resolve_left hz
        have hz' : ((g : Int) == z1) = false := by simpa using hz
        clear hor
        go_wp2_with fail
        go_roundw
        case rel => exact ⟨i + 1, by omega, by go_num, KI.out.trans s10⟩
        case measure => simp [intOf]; omega
    · have hex : ¬ (i : Int) < (ss.length : Int) ∨ ((i : Int) < (ss.length : Int) ∧ ¬ (i : Int) < 20) := by omega
      have hB := HB5.out.all KI.out
      obtain ⟨u0, u1⟩ := hB.cells
      simp only [List.length_singleton] at u1
      have K8 : Hid (Kept (fun _ => True) w wr) := K7.out.trans KI.out
      clear hB KI K7 HB5 HB6 HB7 hlt
      rcases hex with hex | hex
      · go_wp2_with (go_at_call 17; refine Calls.mono (known_any _) ?_; rintro e w8 ⟨rfl, k8⟩)
        go_ret
        exact ⟨rfl, K8.out.trans k8⟩
      · obtain ⟨he1, he2⟩ := hex
        go_wp2_with (go_at_call 17; refine Calls.mono (known_any _) ?_; rintro e w8 ⟨rfl, k8⟩)
        go_ret
        exact ⟨rfl, K8.out.trans k8⟩

end Go.Proofs.Ytclgdgdponoomaa
