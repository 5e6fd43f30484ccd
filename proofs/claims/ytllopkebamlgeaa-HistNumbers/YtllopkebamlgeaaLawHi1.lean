/-
  HistNumbers: it answers true.
-/
import Derived.Test.YtllopkebamlgeaaHiKn
import Derived.Test.YtllopkebamlgeaaMGz
namespace Go.Proofs.Ytllopkebamlgeaa
open Go.RowKit Go.Maps Go.Sort

theorem TwoO.cells {W : World} {g : Nat} {cl out ix why fr tz cl' out' ix' why' fr' tz' : Int} {oa ta oa' ta' : Option Addr} {on oc tn tc on' oc' tn' tc' : Nat} (h : TwoO W g ⟨cl, oa, on, oc, out, ta, tn, tc, ix, why, fr, tz⟩ ⟨cl', oa', on', oc', out', ta', tn', tc', ix', why', fr', tz'⟩) : (W.cell? ⟨g, 0, none⟩ = some (.int .i64 cl) ∧ W.cell? ⟨g, 1, none⟩ = some (.slice oa on oc) ∧ W.cell? ⟨g, 2, none⟩ = some (.int .i64 out) ∧ W.cell? ⟨g, 3, none⟩ = some (.slice ta tn tc) ∧ W.cell? ⟨g, 4, none⟩ = some (.int .i64 ix) ∧ W.cell? ⟨g, 5, none⟩ = some (.int .i64 why) ∧ W.cell? ⟨g, 6, none⟩ = some (.int .i64 fr) ∧ W.cell? ⟨g, 7, none⟩ = some (.int .i64 tz)) ∧ (W.cell? ⟨g, 8, none⟩ = some (.int .i64 cl') ∧ W.cell? ⟨g, 9, none⟩ = some (.slice oa' on' oc') ∧ W.cell? ⟨g, 10, none⟩ = some (.int .i64 out') ∧ W.cell? ⟨g, 11, none⟩ = some (.slice ta' tn' tc') ∧ W.cell? ⟨g, 12, none⟩ = some (.int .i64 ix') ∧ W.cell? ⟨g, 13, none⟩ = some (.int .i64 why') ∧ W.cell? ⟨g, 14, none⟩ = some (.int .i64 fr') ∧ W.cell? ⟨g, 15, none⟩ = some (.int .i64 tz')) :=
  ⟨⟨h.1 0 _ rfl, h.1 1 _ rfl, h.1 2 _ rfl, h.1 3 _ rfl, h.1 4 _ rfl, h.1 5 _ rfl, h.1 6 _ rfl, h.1 7 _ rfl⟩, ⟨h.2 0 _ rfl, h.2 1 _ rfl, h.2 2 _ rfl, h.2 3 _ rfl, h.2 4 _ rfl, h.2 5 _ rfl, h.2 6 _ rfl, h.2 7 _ rfl⟩⟩

set_option maxRecDepth 100000 in
set_option maxHeartbeats 4000000 in
theorem histNumbers_any (w : World) : Calls Try.prog 3 #[] w fun e w' => e = .returned (.bool true) ∧ Kept (fun _ => True) w w' := by
  have C1 : ∀ W : World, Calls Try.prog 7 #[.slice none 0 0] W fun e w' => (∃ (a : Option Addr) (c : Nat), e = .returned (.tuple #[.slice a 0 c, .int .i64 0, .int .i64 0])) ∧ Kept (fun _ => True) W w' := fun W => by
    refine (ops_any (w := W) (al := none) (cap := 0) (es := []) (Vw.nil _ _) (fun _ h => by simp at h) (by simp)).mono fun e w' h => ?_
    obtain ⟨⟨a, c, xs, hx, rfl, ho⟩, k⟩ := h.calls (l := []) rfl
    obtain rfl : xs = [] := List.map_eq_nil_iff.1 hx
    exact ⟨⟨a, c, rfl⟩, k⟩
  have C2 : ∀ W : World, Calls Try.prog 7 #[.slice (some ⟨W.heap.size, 0, none⟩) 3 3] (W.alloc (.cells #[.int .i64 3, .int .i64 (-5), .slice none 0 0, .int .i64 0, .slice none 0 0, .int .i64 0, .int .i64 0, .int .i64 1, .int .i64 0, .slice none 0 0, .int .i64 0, .slice none 0 0, .int .i64 0, .int .i64 0, .int .i64 1, .int .i64 0, .slice none 0 0, .int .i64 0, .slice none 0 0, .int .i64 0, .int .i64 0] 31)) fun e w' => e = .returned (.tuple #[.slice none 0 0, .int .i64 12, .int .i64 2]) ∧ Kept (fun _ => True) W w' := fun W => by
    refine (ops_lit (n := 3) [e0 3 (-5) 0, e0 1 0 0, e0 1 0 0] rfl (heap_alloc_new W _) (by simp [e0, Fits]) (by omega)).mono fun e w' h => ?_
    obtain ⟨h1, k⟩ := h.stop (i := 2) rfl
    exact ⟨h1, ((Kept.refl _ _).alloc _).trans k⟩
  have C3 : ∀ W : World, Calls Try.prog 7 #[.slice (some ⟨W.heap.size, 0, none⟩) 1 1] (W.alloc (.cells #[.int .i64 1, .int .i64 (-1), .slice none 0 0, .int .i64 0, .slice none 0 0, .int .i64 0, .int .i64 0] 31)) fun e w' => e = .returned (.tuple #[.slice none 0 0, .int .i64 12, .int .i64 0]) ∧ Kept (fun _ => True) W w' := fun W => by
    refine (ops_lit (n := 1) [e0 1 (-1) 0] rfl (heap_alloc_new W _) (by simp [e0, Fits]) (by omega)).mono fun e w' h => ?_
    obtain ⟨h1, k⟩ := h.stop (i := 0) rfl
    exact ⟨h1, ((Kept.refl _ _).alloc _).trans k⟩
  have C4 : ∀ W : World, Calls Try.prog 7 #[.slice (some ⟨W.heap.size, 0, none⟩) 1 1] (W.alloc (.cells #[.int .i64 0, .int .i64 0, .slice none 0 0, .int .i64 0, .slice none 0 0, .int .i64 0, .int .i64 0] 31)) fun e w' => e = .returned (.tuple #[.slice none 0 0, .int .i64 12, .int .i64 0]) ∧ Kept (fun _ => True) W w' := fun W => by
    refine (ops_lit (n := 1) [e0 0 0 0] rfl (heap_alloc_new W _) (by simp [e0, Fits]) (by omega)).mono fun e w' h => ?_
    obtain ⟨h1, k⟩ := h.stop (i := 0) rfl
    exact ⟨h1, ((Kept.refl _ _).alloc _).trans k⟩
  have C5 : ∀ W : World, Calls Try.prog 7 #[.slice (some ⟨W.heap.size, 0, none⟩) 3 3] (W.alloc (.cells #[.int .i64 1, .int .i64 0, .slice none 0 0, .int .i64 0, .slice none 0 0, .int .i64 0, .int .i64 0, .int .i64 2, .int .i64 0, .slice none 0 0, .int .i64 1, .slice none 0 0, .int .i64 0, .int .i64 0, .int .i64 1, .int .i64 900, .slice none 0 0, .int .i64 0, .slice none 0 0, .int .i64 0, .int .i64 0] 31)) fun e w' => (∃ (g c : Nat) (x y : Oc), g < w'.heap.size ∧ x.pc = ⟨0, 1, 0, 1⟩ ∧ y.pc = ⟨900, 0, 2, -1⟩ ∧ TwoO w' g x y ∧ Vw opS w' (some ⟨g, 0, none⟩) [x, y] ∧ e = .returned (.tuple #[.slice (some ⟨g, 0, none⟩) 2 c, .int .i64 0, .int .i64 0])) ∧ Kept (fun _ => True) W w' := fun W => by
    refine (ops_lit (n := 3) [e0 1 0 0, e0 2 0 1, e0 1 900 0] rfl (heap_alloc_new W _) (by simp [e0, Fits]) (by omega)).mono fun e w' h => ?_
    obtain ⟨⟨a, c, xs, hx, rfl, ho⟩, k⟩ := h.calls (l := [⟨0, 1, 0, 1⟩, ⟨900, 0, 2, -1⟩]) rfl
    obtain ⟨g, x, y, hg, rfl, rfl, h1, h2, h3⟩ := two_calls ho hx
    exact ⟨⟨g, c, x, y, hg, h1, h2, h3, ho.view, rfl⟩, ((Kept.refl _ _).alloc _).trans k⟩
  go_enter Try.func3, Try.ntmps3
  dsimp only [List.append]
  go_upto_region 2 with (go_at_call 7; (with_reducible refine Calls.mono (C1 _) ?_); rintro e w1 ⟨⟨a1, c1, rfl⟩, k1⟩)
  have K1 : Hid (Kept (fun _ => True) w w1) := k1
  clear C1 k1
  go_upto_region 3 with (go_at_call 7; (with_reducible refine Calls.mono (C2 _) ?_); rintro e w2 ⟨rfl, k2⟩)
  have K2 : Hid (Kept (fun _ => True) w w2) := K1.out.trans k2
  clear C2 k2 K1
  go_upto_region 4 with (go_at_call 7; (with_reducible refine Calls.mono (C3 _) ?_); rintro e w3 ⟨rfl, k3⟩)
  have K3 : Hid (Kept (fun _ => True) w w3) := K2.out.trans k3
  clear C3 k3 K2
  go_upto_region 5 with (go_at_call 7; (with_reducible refine Calls.mono (C4 _) ?_); rintro e w4 ⟨rfl, k4⟩)
  have K4 : Hid (Kept (fun _ => True) w w4) := K3.out.trans k4
  clear C4 k4 K3
  go_upto_region 6 with (go_at_call 7; (with_reducible refine Calls.mono (C5 _) ?_); rintro e w5 ⟨⟨g, c, x, y, hg, hx, hy, h2, hv, rfl⟩, k5⟩)
  have K5 : Hid (Kept (fun _ => True) w w5) := K4.out.trans k5
  have HG : Hid (g < w5.heap.size) := hg
  have HT : Hid (TwoO w5 g x y) := h2
  have HV : Hid (Vw opS w5 (some ⟨g, 0, none⟩) [x, y]) := hv
  have B1 : ∀ W, Calls Try.prog 8 #[.agg (occ x).toArray, .agg (occ y).toArray] W fun e w' => e = .returned (.bool true) ∧ Kept (fun _ => True) W w' := fun W => by have := before_any W x y; rw [hx, hy] at this; exact this
  have B2 : ∀ W, Calls Try.prog 8 #[.agg (occ y).toArray, .agg (occ x).toArray] W fun e w' => e = .returned (.bool false) ∧ Kept (fun _ => True) W w' := fun W => by have := before_any W y x; rw [hx, hy] at this; exact this
  have B3 : ∀ W, Calls Try.prog 8 #[.agg (occ x).toArray, .agg (occ x).toArray] W fun e w' => e = .returned (.bool false) ∧ Kept (fun _ => True) W w' := fun W => by have := before_any W x x; rw [hx] at this; exact this
  have N1 : ∀ W, Kept (fun _ => True) w5 W → Calls Try.prog 9 #[.slice (some ⟨g, 0, none⟩) 2 c, .int .i64 1] W fun e w' => e = .returned (.int .i64 1) ∧ Kept (fun _ => True) W w' := fun W k => by have := count_any (cap := c) (hv.all k) (by simp) 1; rw [List.map_cons, List.map_cons, hx, hy] at this; exact this
  have N2 : ∀ W, Kept (fun _ => True) w5 W → Calls Try.prog 9 #[.slice (some ⟨g, 0, none⟩) 2 c, .int .i64 0] W fun e w' => e = .returned (.int .i64 1) ∧ Kept (fun _ => True) W w' := fun W k => by have := count_any (cap := c) (hv.all k) (by simp) 0; rw [List.map_cons, List.map_cons, hx, hy] at this; exact this
  have N3 : ∀ W, Kept (fun _ => True) w5 W → Calls Try.prog 9 #[.slice (some ⟨g, 0, none⟩) 2 c, .int .i64 2] W fun e w' => e = .returned (.int .i64 0) ∧ Kept (fun _ => True) W w' := fun W k => by have := count_any (cap := c) (hv.all k) (by simp) 2; rw [List.map_cons, List.map_cons, hx, hy] at this; exact this
  clear C5 k5 K4 hg hx hy h2 hv HV
  obtain ⟨cl, oa, on, oc, out, ta, tn, tc, ix, why, fr, tz⟩ := x
  obtain ⟨cl', oa', on', oc', out', ta', tn', tc', ix', why', fr', tz'⟩ := y
  unfold occ at B1 B2 B3
  simp only at B1 B2 B3
  have m0 : ∀ W, Kept (fun _ => True) w5 W → W.cell? ⟨g, 0, none⟩ = some (.int .i64 cl) := fun W k => (HT.out.all HG.out k).cells.1.1
  have m1 : ∀ W, Kept (fun _ => True) w5 W → W.cell? ⟨g, 1, none⟩ = some (.slice oa on oc) := fun W k => (HT.out.all HG.out k).cells.1.2.1
  have m2 : ∀ W, Kept (fun _ => True) w5 W → W.cell? ⟨g, 2, none⟩ = some (.int .i64 out) := fun W k => (HT.out.all HG.out k).cells.1.2.2.1
  have m3 : ∀ W, Kept (fun _ => True) w5 W → W.cell? ⟨g, 3, none⟩ = some (.slice ta tn tc) := fun W k => (HT.out.all HG.out k).cells.1.2.2.2.1
  have m4 : ∀ W, Kept (fun _ => True) w5 W → W.cell? ⟨g, 4, none⟩ = some (.int .i64 ix) := fun W k => (HT.out.all HG.out k).cells.1.2.2.2.2.1
  have m5 : ∀ W, Kept (fun _ => True) w5 W → W.cell? ⟨g, 5, none⟩ = some (.int .i64 why) := fun W k => (HT.out.all HG.out k).cells.1.2.2.2.2.2.1
  have m6 : ∀ W, Kept (fun _ => True) w5 W → W.cell? ⟨g, 6, none⟩ = some (.int .i64 fr) := fun W k => (HT.out.all HG.out k).cells.1.2.2.2.2.2.2.1
  have m7 : ∀ W, Kept (fun _ => True) w5 W → W.cell? ⟨g, 7, none⟩ = some (.int .i64 tz) := fun W k => (HT.out.all HG.out k).cells.1.2.2.2.2.2.2.2
  have m8 : ∀ W, Kept (fun _ => True) w5 W → W.cell? ⟨g, 8, none⟩ = some (.int .i64 cl') := fun W k => (HT.out.all HG.out k).cells.2.1
  have m9 : ∀ W, Kept (fun _ => True) w5 W → W.cell? ⟨g, 9, none⟩ = some (.slice oa' on' oc') := fun W k => (HT.out.all HG.out k).cells.2.2.1
  have m10 : ∀ W, Kept (fun _ => True) w5 W → W.cell? ⟨g, 10, none⟩ = some (.int .i64 out') := fun W k => (HT.out.all HG.out k).cells.2.2.2.1
  have m11 : ∀ W, Kept (fun _ => True) w5 W → W.cell? ⟨g, 11, none⟩ = some (.slice ta' tn' tc') := fun W k => (HT.out.all HG.out k).cells.2.2.2.2.1
  have m12 : ∀ W, Kept (fun _ => True) w5 W → W.cell? ⟨g, 12, none⟩ = some (.int .i64 ix') := fun W k => (HT.out.all HG.out k).cells.2.2.2.2.2.1
  have m13 : ∀ W, Kept (fun _ => True) w5 W → W.cell? ⟨g, 13, none⟩ = some (.int .i64 why') := fun W k => (HT.out.all HG.out k).cells.2.2.2.2.2.2.1
  have m14 : ∀ W, Kept (fun _ => True) w5 W → W.cell? ⟨g, 14, none⟩ = some (.int .i64 fr') := fun W k => (HT.out.all HG.out k).cells.2.2.2.2.2.2.2.1
  have m15 : ∀ W, Kept (fun _ => True) w5 W → W.cell? ⟨g, 15, none⟩ = some (.int .i64 tz') := fun W k => (HT.out.all HG.out k).cells.2.2.2.2.2.2.2.2
  go_upto_region 8 with fail
  refine Gz.begin (fun W => Kept (fun _ => True) w5 W) (fun _ => false) (by kernel_rfl) ?_
  refine Gz.take (i := 0) (oi := { dst := some 57, op := Op.move (Operand.tmp 2), type := 23, pos := _, after := _, guard := none }) (v := ?_) rfl (by kernel_rfl) (by kernel_rfl) (by kernel_rfl) (by kernel_rfl) (fun _ _ _ h => h) (Or.inl ⟨by rfl, ?hy0⟩) (Kept.refl _ _).drew ?_
  case hy0 => (intro W hSw; (try dsimp only at hSw); go_simp; try with_reducible rfl)
  try simp only [Act.put, List.setIfInBounds_toArray, List.set_cons_zero, List.set_cons_succ]
  refine Gz.take (i := 1) (oi := { dst := some 58, op := Op.binOp BinOp.eql 23 (Operand.tmp 57) (Operand.const (Value.int IntKind.i64 0)) 23, type := 4, pos := _, after := _, guard := none }) (v := ?_) rfl (by kernel_rfl) (by kernel_rfl) (by kernel_rfl) (by kernel_rfl) (fun _ _ _ h => h) (Or.inl ⟨by rfl, ?hy1⟩) (Kept.refl _ _).drew ?_
  case hy1 => (intro W hSw; (try dsimp only at hSw); go_simp; try with_reducible rfl)
  try simp only [Act.put, List.setIfInBounds_toArray, List.set_cons_zero, List.set_cons_succ]
  refine Gz.take (i := 2) (oi := { dst := some 59, op := Op.move (Operand.tmp 58), type := 4, pos := _, after := _, guard := none }) (v := ?_) rfl (by kernel_rfl) (by kernel_rfl) (by kernel_rfl) (by kernel_rfl) (fun _ _ _ h => h) (Or.inl ⟨by rfl, ?hy2⟩) (Kept.refl _ _).drew ?_
  case hy2 => (intro W hSw; (try dsimp only at hSw); go_simp; try with_reducible rfl)
  try simp only [Act.put, List.setIfInBounds_toArray, List.set_cons_zero, List.set_cons_succ]
  refine Gz.take (i := 3) (oi := { dst := some 60, op := Op.move (Operand.tmp 1), type := 22, pos := _, after := _, guard := some (2, true) }) (v := ?_) rfl (by kernel_rfl) (by kernel_rfl) (by kernel_rfl) (by kernel_rfl) (fun _ _ _ h => h) (Or.inl ⟨by rfl, ?hy3⟩) (Kept.refl _ _).drew ?_
  case hy3 => (intro W hSw; (try dsimp only at hSw); go_simp; try with_reducible rfl)
  try simp only [Act.put, List.setIfInBounds_toArray, List.set_cons_zero, List.set_cons_succ]
  refine Gz.take (i := 4) (oi := { dst := some 61, op := Op.call { callee := Callee.builtin Builtin.len, args := #[Operand.tmp 60], argTypes := #[22] }, type := 3, pos := _, after := _, guard := some (2, true) }) (v := ?_) rfl (by kernel_rfl) (by kernel_rfl) (by kernel_rfl) (by kernel_rfl) (fun _ _ _ h => h) (Or.inl ⟨by rfl, ?hy4⟩) (Kept.refl _ _).drew ?_
  case hy4 => (intro W hSw; (try dsimp only at hSw); go_simp; try with_reducible rfl)
  try simp only [Act.put, List.setIfInBounds_toArray, List.set_cons_zero, List.set_cons_succ]
  refine Gz.take (i := 5) (oi := { dst := some 62, op := Op.binOp BinOp.eql 3 (Operand.tmp 61) (Operand.const (Value.int IntKind.i64 0)) 3, type := 4, pos := _, after := _, guard := some (2, true) }) (v := ?_) rfl (by kernel_rfl) (by kernel_rfl) (by kernel_rfl) (by kernel_rfl) (fun _ _ _ h => h) (Or.inl ⟨by rfl, ?hy5⟩) (Kept.refl _ _).drew ?_
  case hy5 => (intro W hSw; (try dsimp only at hSw); go_simp; try with_reducible rfl)
  try simp only [Act.put, List.setIfInBounds_toArray, List.set_cons_zero, List.set_cons_succ]
  refine Gz.take (i := 6) (oi := { dst := some 63, op := Op.pick (Operand.tmp 59) (Operand.tmp 62) (Operand.const (Value.bool false)), type := 4, pos := _, after := _, guard := none }) (v := ?_) rfl (by kernel_rfl) (by kernel_rfl) (by kernel_rfl) (by kernel_rfl) (fun _ _ _ h => h) (Or.inl ⟨by rfl, ?hy6⟩) (Kept.refl _ _).drew ?_
  case hy6 => (intro W hSw; (try dsimp only at hSw); go_simp; try with_reducible rfl)
  try simp only [Act.put, List.setIfInBounds_toArray, List.set_cons_zero, List.set_cons_succ]
  refine Gz.take (i := 7) (oi := { dst := some 64, op := Op.move (Operand.tmp 63), type := 4, pos := _, after := _, guard := none }) (v := ?_) rfl (by kernel_rfl) (by kernel_rfl) (by kernel_rfl) (by kernel_rfl) (fun _ _ _ h => h) (Or.inl ⟨by rfl, ?hy7⟩) (Kept.refl _ _).drew ?_
  case hy7 => (intro W hSw; (try dsimp only at hSw); go_simp; try with_reducible rfl)
  try simp only [Act.put, List.setIfInBounds_toArray, List.set_cons_zero, List.set_cons_succ]
  refine Gz.take (i := 8) (oi := { dst := some 65, op := Op.move (Operand.tmp 5), type := 23, pos := _, after := _, guard := some (7, true) }) (v := ?_) rfl (by kernel_rfl) (by kernel_rfl) (by kernel_rfl) (by kernel_rfl) (fun _ _ _ h => h) (Or.inl ⟨by rfl, ?hy8⟩) (Kept.refl _ _).drew ?_
  case hy8 => (intro W hSw; (try dsimp only at hSw); go_simp; try with_reducible rfl)
  try simp only [Act.put, List.setIfInBounds_toArray, List.set_cons_zero, List.set_cons_succ]
  refine Gz.take (i := 9) (oi := { dst := some 66, op := Op.binOp BinOp.eql 3 (Operand.tmp 65) (Operand.const (Value.int IntKind.i64 12)) 3, type := 4, pos := _, after := _, guard := some (7, true) }) (v := ?_) rfl (by kernel_rfl) (by kernel_rfl) (by kernel_rfl) (by kernel_rfl) (fun _ _ _ h => h) (Or.inl ⟨by rfl, ?hy9⟩) (Kept.refl _ _).drew ?_
  case hy9 => (intro W hSw; (try dsimp only at hSw); go_simp; try with_reducible rfl)
  try simp only [Act.put, List.setIfInBounds_toArray, List.set_cons_zero, List.set_cons_succ]
  refine Gz.take (i := 10) (oi := { dst := some 67, op := Op.pick (Operand.tmp 64) (Operand.tmp 66) (Operand.const (Value.bool false)), type := 4, pos := _, after := _, guard := none }) (v := ?_) rfl (by kernel_rfl) (by kernel_rfl) (by kernel_rfl) (by kernel_rfl) (fun _ _ _ h => h) (Or.inl ⟨by rfl, ?hy10⟩) (Kept.refl _ _).drew ?_
  case hy10 => (intro W hSw; (try dsimp only at hSw); go_simp; try with_reducible rfl)
  try simp only [Act.put, List.setIfInBounds_toArray, List.set_cons_zero, List.set_cons_succ]
  refine Gz.take (i := 11) (oi := { dst := some 68, op := Op.move (Operand.tmp 67), type := 4, pos := _, after := _, guard := none }) (v := ?_) rfl (by kernel_rfl) (by kernel_rfl) (by kernel_rfl) (by kernel_rfl) (fun _ _ _ h => h) (Or.inl ⟨by rfl, ?hy11⟩) (Kept.refl _ _).drew ?_
  case hy11 => (intro W hSw; (try dsimp only at hSw); go_simp; try with_reducible rfl)
  try simp only [Act.put, List.setIfInBounds_toArray, List.set_cons_zero, List.set_cons_succ]
  refine Gz.take (i := 12) (oi := { dst := some 69, op := Op.move (Operand.tmp 6), type := 3, pos := _, after := _, guard := some (11, true) }) (v := ?_) rfl (by kernel_rfl) (by kernel_rfl) (by kernel_rfl) (by kernel_rfl) (fun _ _ _ h => h) (Or.inl ⟨by rfl, ?hy12⟩) (Kept.refl _ _).drew ?_
  case hy12 => (intro W hSw; (try dsimp only at hSw); go_simp; try with_reducible rfl)
  try simp only [Act.put, List.setIfInBounds_toArray, List.set_cons_zero, List.set_cons_succ]
  refine Gz.take (i := 13) (oi := { dst := some 70, op := Op.binOp BinOp.eql 3 (Operand.tmp 69) (Operand.const (Value.int IntKind.i64 2)) 3, type := 4, pos := _, after := _, guard := some (11, true) }) (v := ?_) rfl (by kernel_rfl) (by kernel_rfl) (by kernel_rfl) (by kernel_rfl) (fun _ _ _ h => h) (Or.inl ⟨by rfl, ?hy13⟩) (Kept.refl _ _).drew ?_
  case hy13 => (intro W hSw; (try dsimp only at hSw); go_simp; try with_reducible rfl)
  try simp only [Act.put, List.setIfInBounds_toArray, List.set_cons_zero, List.set_cons_succ]
  refine Gz.take (i := 14) (oi := { dst := some 71, op := Op.pick (Operand.tmp 68) (Operand.tmp 70) (Operand.const (Value.bool false)), type := 4, pos := _, after := _, guard := none }) (v := ?_) rfl (by kernel_rfl) (by kernel_rfl) (by kernel_rfl) (by kernel_rfl) (fun _ _ _ h => h) (Or.inl ⟨by rfl, ?hy14⟩) (Kept.refl _ _).drew ?_
  case hy14 => (intro W hSw; (try dsimp only at hSw); go_simp; try with_reducible rfl)
  try simp only [Act.put, List.setIfInBounds_toArray, List.set_cons_zero, List.set_cons_succ]
  refine Gz.take (i := 15) (oi := { dst := some 72, op := Op.move (Operand.tmp 71), type := 4, pos := _, after := _, guard := none }) (v := ?_) rfl (by kernel_rfl) (by kernel_rfl) (by kernel_rfl) (by kernel_rfl) (fun _ _ _ h => h) (Or.inl ⟨by rfl, ?hy15⟩) (Kept.refl _ _).drew ?_
  case hy15 => (intro W hSw; (try dsimp only at hSw); go_simp; try with_reducible rfl)
  try simp only [Act.put, List.setIfInBounds_toArray, List.set_cons_zero, List.set_cons_succ]
  refine Gz.take (i := 16) (oi := { dst := some 73, op := Op.move (Operand.tmp 8), type := 23, pos := _, after := _, guard := some (15, true) }) (v := ?_) rfl (by kernel_rfl) (by kernel_rfl) (by kernel_rfl) (by kernel_rfl) (fun _ _ _ h => h) (Or.inl ⟨by rfl, ?hy16⟩) (Kept.refl _ _).drew ?_
  case hy16 => (intro W hSw; (try dsimp only at hSw); go_simp; try with_reducible rfl)
  try simp only [Act.put, List.setIfInBounds_toArray, List.set_cons_zero, List.set_cons_succ]
  refine Gz.take (i := 17) (oi := { dst := some 74, op := Op.binOp BinOp.eql 3 (Operand.tmp 73) (Operand.const (Value.int IntKind.i64 12)) 3, type := 4, pos := _, after := _, guard := some (15, true) }) (v := ?_) rfl (by kernel_rfl) (by kernel_rfl) (by kernel_rfl) (by kernel_rfl) (fun _ _ _ h => h) (Or.inl ⟨by rfl, ?hy17⟩) (Kept.refl _ _).drew ?_
  case hy17 => (intro W hSw; (try dsimp only at hSw); go_simp; try with_reducible rfl)
  try simp only [Act.put, List.setIfInBounds_toArray, List.set_cons_zero, List.set_cons_succ]
  refine Gz.take (i := 18) (oi := { dst := some 75, op := Op.pick (Operand.tmp 72) (Operand.tmp 74) (Operand.const (Value.bool false)), type := 4, pos := _, after := _, guard := none }) (v := ?_) rfl (by kernel_rfl) (by kernel_rfl) (by kernel_rfl) (by kernel_rfl) (fun _ _ _ h => h) (Or.inl ⟨by rfl, ?hy18⟩) (Kept.refl _ _).drew ?_
  case hy18 => (intro W hSw; (try dsimp only at hSw); go_simp; try with_reducible rfl)
  try simp only [Act.put, List.setIfInBounds_toArray, List.set_cons_zero, List.set_cons_succ]
  refine Gz.take (i := 19) (oi := { dst := some 76, op := Op.move (Operand.tmp 75), type := 4, pos := _, after := _, guard := none }) (v := ?_) rfl (by kernel_rfl) (by kernel_rfl) (by kernel_rfl) (by kernel_rfl) (fun _ _ _ h => h) (Or.inl ⟨by rfl, ?hy19⟩) (Kept.refl _ _).drew ?_
  case hy19 => (intro W hSw; (try dsimp only at hSw); go_simp; try with_reducible rfl)
  try simp only [Act.put, List.setIfInBounds_toArray, List.set_cons_zero, List.set_cons_succ]
  refine Gz.take (i := 20) (oi := { dst := some 77, op := Op.move (Operand.tmp 9), type := 3, pos := _, after := _, guard := some (19, true) }) (v := ?_) rfl (by kernel_rfl) (by kernel_rfl) (by kernel_rfl) (by kernel_rfl) (fun _ _ _ h => h) (Or.inl ⟨by rfl, ?hy20⟩) (Kept.refl _ _).drew ?_
  case hy20 => (intro W hSw; (try dsimp only at hSw); go_simp; try with_reducible rfl)
  try simp only [Act.put, List.setIfInBounds_toArray, List.set_cons_zero, List.set_cons_succ]
  refine Gz.take (i := 21) (oi := { dst := some 78, op := Op.binOp BinOp.eql 3 (Operand.tmp 77) (Operand.const (Value.int IntKind.i64 0)) 3, type := 4, pos := _, after := _, guard := some (19, true) }) (v := ?_) rfl (by kernel_rfl) (by kernel_rfl) (by kernel_rfl) (by kernel_rfl) (fun _ _ _ h => h) (Or.inl ⟨by rfl, ?hy21⟩) (Kept.refl _ _).drew ?_
  case hy21 => (intro W hSw; (try dsimp only at hSw); go_simp; try with_reducible rfl)
  try simp only [Act.put, List.setIfInBounds_toArray, List.set_cons_zero, List.set_cons_succ]
  refine Gz.take (i := 22) (oi := { dst := some 79, op := Op.pick (Operand.tmp 76) (Operand.tmp 78) (Operand.const (Value.bool false)), type := 4, pos := _, after := _, guard := none }) (v := ?_) rfl (by kernel_rfl) (by kernel_rfl) (by kernel_rfl) (by kernel_rfl) (fun _ _ _ h => h) (Or.inl ⟨by rfl, ?hy22⟩) (Kept.refl _ _).drew ?_
  case hy22 => (intro W hSw; (try dsimp only at hSw); go_simp; try with_reducible rfl)
  try simp only [Act.put, List.setIfInBounds_toArray, List.set_cons_zero, List.set_cons_succ]
  refine Gz.take (i := 23) (oi := { dst := some 80, op := Op.move (Operand.tmp 79), type := 4, pos := _, after := _, guard := none }) (v := ?_) rfl (by kernel_rfl) (by kernel_rfl) (by kernel_rfl) (by kernel_rfl) (fun _ _ _ h => h) (Or.inl ⟨by rfl, ?hy23⟩) (Kept.refl _ _).drew ?_
  case hy23 => (intro W hSw; (try dsimp only at hSw); go_simp; try with_reducible rfl)
  try simp only [Act.put, List.setIfInBounds_toArray, List.set_cons_zero, List.set_cons_succ]
  refine Gz.take (i := 24) (oi := { dst := some 81, op := Op.move (Operand.tmp 11), type := 23, pos := _, after := _, guard := some (23, true) }) (v := ?_) rfl (by kernel_rfl) (by kernel_rfl) (by kernel_rfl) (by kernel_rfl) (fun _ _ _ h => h) (Or.inl ⟨by rfl, ?hy24⟩) (Kept.refl _ _).drew ?_
  case hy24 => (intro W hSw; (try dsimp only at hSw); go_simp; try with_reducible rfl)
  try simp only [Act.put, List.setIfInBounds_toArray, List.set_cons_zero, List.set_cons_succ]
  refine Gz.take (i := 25) (oi := { dst := some 82, op := Op.binOp BinOp.eql 3 (Operand.tmp 81) (Operand.const (Value.int IntKind.i64 12)) 3, type := 4, pos := _, after := _, guard := some (23, true) }) (v := ?_) rfl (by kernel_rfl) (by kernel_rfl) (by kernel_rfl) (by kernel_rfl) (fun _ _ _ h => h) (Or.inl ⟨by rfl, ?hy25⟩) (Kept.refl _ _).drew ?_
  case hy25 => (intro W hSw; (try dsimp only at hSw); go_simp; try with_reducible rfl)
  try simp only [Act.put, List.setIfInBounds_toArray, List.set_cons_zero, List.set_cons_succ]
  refine Gz.take (i := 26) (oi := { dst := some 83, op := Op.pick (Operand.tmp 80) (Operand.tmp 82) (Operand.const (Value.bool false)), type := 4, pos := _, after := _, guard := none }) (v := ?_) rfl (by kernel_rfl) (by kernel_rfl) (by kernel_rfl) (by kernel_rfl) (fun _ _ _ h => h) (Or.inl ⟨by rfl, ?hy26⟩) (Kept.refl _ _).drew ?_
  case hy26 => (intro W hSw; (try dsimp only at hSw); go_simp; try with_reducible rfl)
  try simp only [Act.put, List.setIfInBounds_toArray, List.set_cons_zero, List.set_cons_succ]
  refine Gz.take (i := 27) (oi := { dst := some 84, op := Op.move (Operand.tmp 83), type := 4, pos := _, after := _, guard := none }) (v := ?_) rfl (by kernel_rfl) (by kernel_rfl) (by kernel_rfl) (by kernel_rfl) (fun _ _ _ h => h) (Or.inl ⟨by rfl, ?hy27⟩) (Kept.refl _ _).drew ?_
  case hy27 => (intro W hSw; (try dsimp only at hSw); go_simp; try with_reducible rfl)
  try simp only [Act.put, List.setIfInBounds_toArray, List.set_cons_zero, List.set_cons_succ]
  refine Gz.take (i := 28) (oi := { dst := some 85, op := Op.move (Operand.tmp 12), type := 3, pos := _, after := _, guard := some (27, true) }) (v := ?_) rfl (by kernel_rfl) (by kernel_rfl) (by kernel_rfl) (by kernel_rfl) (fun _ _ _ h => h) (Or.inl ⟨by rfl, ?hy28⟩) (Kept.refl _ _).drew ?_
  case hy28 => (intro W hSw; (try dsimp only at hSw); go_simp; try with_reducible rfl)
  try simp only [Act.put, List.setIfInBounds_toArray, List.set_cons_zero, List.set_cons_succ]
  refine Gz.take (i := 29) (oi := { dst := some 86, op := Op.binOp BinOp.eql 3 (Operand.tmp 85) (Operand.const (Value.int IntKind.i64 0)) 3, type := 4, pos := _, after := _, guard := some (27, true) }) (v := ?_) rfl (by kernel_rfl) (by kernel_rfl) (by kernel_rfl) (by kernel_rfl) (fun _ _ _ h => h) (Or.inl ⟨by rfl, ?hy29⟩) (Kept.refl _ _).drew ?_
  case hy29 => (intro W hSw; (try dsimp only at hSw); go_simp; try with_reducible rfl)
  try simp only [Act.put, List.setIfInBounds_toArray, List.set_cons_zero, List.set_cons_succ]
  refine Gz.take (i := 30) (oi := { dst := some 87, op := Op.pick (Operand.tmp 84) (Operand.tmp 86) (Operand.const (Value.bool false)), type := 4, pos := _, after := _, guard := none }) (v := ?_) rfl (by kernel_rfl) (by kernel_rfl) (by kernel_rfl) (by kernel_rfl) (fun _ _ _ h => h) (Or.inl ⟨by rfl, ?hy30⟩) (Kept.refl _ _).drew ?_
  case hy30 => (intro W hSw; (try dsimp only at hSw); go_simp; try with_reducible rfl)
  try simp only [Act.put, List.setIfInBounds_toArray, List.set_cons_zero, List.set_cons_succ]
  refine Gz.take (i := 31) (oi := { dst := some 88, op := Op.move (Operand.tmp 87), type := 4, pos := _, after := _, guard := none }) (v := ?_) rfl (by kernel_rfl) (by kernel_rfl) (by kernel_rfl) (by kernel_rfl) (fun _ _ _ h => h) (Or.inl ⟨by rfl, ?hy31⟩) (Kept.refl _ _).drew ?_
  case hy31 => (intro W hSw; (try dsimp only at hSw); go_simp; try with_reducible rfl)
  try simp only [Act.put, List.setIfInBounds_toArray, List.set_cons_zero, List.set_cons_succ]
  refine Gz.take (i := 32) (oi := { dst := some 89, op := Op.move (Operand.tmp 14), type := 23, pos := _, after := _, guard := some (31, true) }) (v := ?_) rfl (by kernel_rfl) (by kernel_rfl) (by kernel_rfl) (by kernel_rfl) (fun _ _ _ h => h) (Or.inl ⟨by rfl, ?hy32⟩) (Kept.refl _ _).drew ?_
  case hy32 => (intro W hSw; (try dsimp only at hSw); go_simp; try with_reducible rfl)
  try simp only [Act.put, List.setIfInBounds_toArray, List.set_cons_zero, List.set_cons_succ]
  refine Gz.take (i := 33) (oi := { dst := some 90, op := Op.binOp BinOp.eql 23 (Operand.tmp 89) (Operand.const (Value.int IntKind.i64 0)) 23, type := 4, pos := _, after := _, guard := some (31, true) }) (v := ?_) rfl (by kernel_rfl) (by kernel_rfl) (by kernel_rfl) (by kernel_rfl) (fun _ _ _ h => h) (Or.inl ⟨by rfl, ?hy33⟩) (Kept.refl _ _).drew ?_
  case hy33 => (intro W hSw; (try dsimp only at hSw); go_simp; try with_reducible rfl)
  try simp only [Act.put, List.setIfInBounds_toArray, List.set_cons_zero, List.set_cons_succ]
  refine Gz.take (i := 34) (oi := { dst := some 91, op := Op.pick (Operand.tmp 88) (Operand.tmp 90) (Operand.const (Value.bool false)), type := 4, pos := _, after := _, guard := none }) (v := ?_) rfl (by kernel_rfl) (by kernel_rfl) (by kernel_rfl) (by kernel_rfl) (fun _ _ _ h => h) (Or.inl ⟨by rfl, ?hy34⟩) (Kept.refl _ _).drew ?_
  case hy34 => (intro W hSw; (try dsimp only at hSw); go_simp; try with_reducible rfl)
  try simp only [Act.put, List.setIfInBounds_toArray, List.set_cons_zero, List.set_cons_succ]
  refine Gz.take (i := 35) (oi := { dst := some 92, op := Op.move (Operand.tmp 91), type := 4, pos := _, after := _, guard := none }) (v := ?_) rfl (by kernel_rfl) (by kernel_rfl) (by kernel_rfl) (by kernel_rfl) (fun _ _ _ h => h) (Or.inl ⟨by rfl, ?hy35⟩) (Kept.refl _ _).drew ?_
  case hy35 => (intro W hSw; (try dsimp only at hSw); go_simp; try with_reducible rfl)
  try simp only [Act.put, List.setIfInBounds_toArray, List.set_cons_zero, List.set_cons_succ]
  refine Gz.take (i := 36) (oi := { dst := some 93, op := Op.move (Operand.tmp 13), type := 22, pos := _, after := _, guard := some (35, true) }) (v := ?_) rfl (by kernel_rfl) (by kernel_rfl) (by kernel_rfl) (by kernel_rfl) (fun _ _ _ h => h) (Or.inl ⟨by rfl, ?hy36⟩) (Kept.refl _ _).drew ?_
  case hy36 => (intro W hSw; (try dsimp only at hSw); go_simp; try with_reducible rfl)
  try simp only [Act.put, List.setIfInBounds_toArray, List.set_cons_zero, List.set_cons_succ]
  refine Gz.take (i := 37) (oi := { dst := some 94, op := Op.indexAddr 22 (Operand.tmp 93) (Operand.const (Value.int IntKind.i64 0)), type := 0, pos := _, after := _, guard := some (35, true) }) (v := ?_) rfl (by kernel_rfl) (by kernel_rfl) (by kernel_rfl) (by kernel_rfl) (fun _ _ _ h => h) (Or.inl ⟨by rfl, ?hy37⟩) (Kept.refl _ _).drew ?_
  case hy37 => (intro W hSw; (try dsimp only at hSw); go_simp; try with_reducible rfl)
  try simp only [Act.put, List.setIfInBounds_toArray, List.set_cons_zero, List.set_cons_succ]
  refine Gz.take (i := 38) (oi := { dst := some 95, op := Op.load 35 (Operand.tmp 94), type := 35, pos := _, after := _, guard := some (35, true) }) (v := ?_) rfl (by kernel_rfl) (by kernel_rfl) (by kernel_rfl) (by kernel_rfl) (fun _ _ _ h => h) (Or.inl ⟨by rfl, ?hy38⟩) (Kept.refl _ _).drew ?_
  case hy38 => (intro W hSw; (try dsimp only at hSw); go_simp; try with_reducible rfl)
  try simp only [Act.put, List.setIfInBounds_toArray, List.set_cons_zero, List.set_cons_succ]
  refine Gz.take (i := 39) (oi := { dst := some 96, op := Op.move (Operand.tmp 13), type := 22, pos := _, after := _, guard := some (35, true) }) (v := ?_) rfl (by kernel_rfl) (by kernel_rfl) (by kernel_rfl) (by kernel_rfl) (fun _ _ _ h => h) (Or.inl ⟨by rfl, ?hy39⟩) (Kept.refl _ _).drew ?_
  case hy39 => (intro W hSw; (try dsimp only at hSw); go_simp; try with_reducible rfl)
  try simp only [Act.put, List.setIfInBounds_toArray, List.set_cons_zero, List.set_cons_succ]
  refine Gz.take (i := 40) (oi := { dst := some 97, op := Op.indexAddr 22 (Operand.tmp 96) (Operand.const (Value.int IntKind.i64 1)), type := 0, pos := _, after := _, guard := some (35, true) }) (v := ?_) rfl (by kernel_rfl) (by kernel_rfl) (by kernel_rfl) (by kernel_rfl) (fun _ _ _ h => h) (Or.inl ⟨by rfl, ?hy40⟩) (Kept.refl _ _).drew ?_
  case hy40 => (intro W hSw; (try dsimp only at hSw); go_simp; try with_reducible rfl)
  try simp only [Act.put, List.setIfInBounds_toArray, List.set_cons_zero, List.set_cons_succ]
  refine Gz.take (i := 41) (oi := { dst := some 98, op := Op.load 35 (Operand.tmp 97), type := 35, pos := _, after := _, guard := some (35, true) }) (v := ?_) rfl (by kernel_rfl) (by kernel_rfl) (by kernel_rfl) (by kernel_rfl) (fun _ _ _ h => h) (Or.inl ⟨by rfl, ?hy41⟩) (Kept.refl _ _).drew ?_
  case hy41 => (intro W hSw; (try dsimp only at hSw); go_simp; try with_reducible rfl)
  try simp only [Act.put, List.setIfInBounds_toArray, List.set_cons_zero, List.set_cons_succ]
  refine Gz.one (i := 42) (o := { dst := some 99, op := Op.call { callee := Callee.value (Operand.func 8), args := #[Operand.tmp 95, Operand.tmp 98], argTypes := #[35, 35] }, type := 4, pos := _, after := _, guard := some (35, true) }) (by kernel_rfl) rfl (fun K hK => ?_)
  go_simp
  with_reducible refine Calls.mono (B1 _) ?_
  rintro e w6 ⟨rfl, k6⟩
  have s6 : Kept (fun _ => True) w5 w6 := ((Kept.refl _ _).drew).trans k6
  clear k6
  try go_wp2_with fail
  refine hK.out _ _ (fun _ => s6) ?_
  clear hK K
  try simp only [Act.put, List.setIfInBounds_toArray, List.set_cons_zero, List.set_cons_succ]
  refine Gz.take (i := 43) (oi := { dst := some 100, op := Op.pick (Operand.tmp 92) (Operand.tmp 99) (Operand.const (Value.bool false)), type := 4, pos := _, after := _, guard := none }) (v := ?_) rfl (by kernel_rfl) (by kernel_rfl) (by kernel_rfl) (by kernel_rfl) (fun _ _ _ h => h) (Or.inl ⟨by rfl, ?hy43⟩) s6 ?_
  case hy43 => (intro W hSw; (try dsimp only at hSw); go_simp; try with_reducible rfl)
  try simp only [Act.put, List.setIfInBounds_toArray, List.set_cons_zero, List.set_cons_succ]
  refine Gz.take (i := 44) (oi := { dst := some 101, op := Op.move (Operand.tmp 100), type := 4, pos := _, after := _, guard := none }) (v := ?_) rfl (by kernel_rfl) (by kernel_rfl) (by kernel_rfl) (by kernel_rfl) (fun _ _ _ h => h) (Or.inl ⟨by rfl, ?hy44⟩) s6 ?_
  case hy44 => (intro W hSw; (try dsimp only at hSw); go_simp; try with_reducible rfl)
  try simp only [Act.put, List.setIfInBounds_toArray, List.set_cons_zero, List.set_cons_succ]
  refine Gz.take (i := 45) (oi := { dst := some 102, op := Op.move (Operand.tmp 13), type := 22, pos := _, after := _, guard := some (44, true) }) (v := ?_) rfl (by kernel_rfl) (by kernel_rfl) (by kernel_rfl) (by kernel_rfl) (fun _ _ _ h => h) (Or.inl ⟨by rfl, ?hy45⟩) s6 ?_
  case hy45 => (intro W hSw; (try dsimp only at hSw); go_simp; try with_reducible rfl)
  try simp only [Act.put, List.setIfInBounds_toArray, List.set_cons_zero, List.set_cons_succ]
  refine Gz.take (i := 46) (oi := { dst := some 103, op := Op.indexAddr 22 (Operand.tmp 102) (Operand.const (Value.int IntKind.i64 1)), type := 0, pos := _, after := _, guard := some (44, true) }) (v := ?_) rfl (by kernel_rfl) (by kernel_rfl) (by kernel_rfl) (by kernel_rfl) (fun _ _ _ h => h) (Or.inl ⟨by rfl, ?hy46⟩) s6 ?_
  case hy46 => (intro W hSw; (try dsimp only at hSw); go_simp; try with_reducible rfl)
  try simp only [Act.put, List.setIfInBounds_toArray, List.set_cons_zero, List.set_cons_succ]
  refine Gz.take (i := 47) (oi := { dst := some 104, op := Op.load 35 (Operand.tmp 103), type := 35, pos := _, after := _, guard := some (44, true) }) (v := ?_) rfl (by kernel_rfl) (by kernel_rfl) (by kernel_rfl) (by kernel_rfl) (fun _ _ _ h => h) (Or.inl ⟨by rfl, ?hy47⟩) s6 ?_
  case hy47 => (intro W hSw; (try dsimp only at hSw); go_simp; try with_reducible rfl)
  try simp only [Act.put, List.setIfInBounds_toArray, List.set_cons_zero, List.set_cons_succ]
  refine Gz.take (i := 48) (oi := { dst := some 105, op := Op.move (Operand.tmp 13), type := 22, pos := _, after := _, guard := some (44, true) }) (v := ?_) rfl (by kernel_rfl) (by kernel_rfl) (by kernel_rfl) (by kernel_rfl) (fun _ _ _ h => h) (Or.inl ⟨by rfl, ?hy48⟩) s6 ?_
  case hy48 => (intro W hSw; (try dsimp only at hSw); go_simp; try with_reducible rfl)
  try simp only [Act.put, List.setIfInBounds_toArray, List.set_cons_zero, List.set_cons_succ]
  refine Gz.take (i := 49) (oi := { dst := some 106, op := Op.indexAddr 22 (Operand.tmp 105) (Operand.const (Value.int IntKind.i64 0)), type := 0, pos := _, after := _, guard := some (44, true) }) (v := ?_) rfl (by kernel_rfl) (by kernel_rfl) (by kernel_rfl) (by kernel_rfl) (fun _ _ _ h => h) (Or.inl ⟨by rfl, ?hy49⟩) s6 ?_
  case hy49 => (intro W hSw; (try dsimp only at hSw); go_simp; try with_reducible rfl)
  try simp only [Act.put, List.setIfInBounds_toArray, List.set_cons_zero, List.set_cons_succ]
  refine Gz.take (i := 50) (oi := { dst := some 107, op := Op.load 35 (Operand.tmp 106), type := 35, pos := _, after := _, guard := some (44, true) }) (v := ?_) rfl (by kernel_rfl) (by kernel_rfl) (by kernel_rfl) (by kernel_rfl) (fun _ _ _ h => h) (Or.inl ⟨by rfl, ?hy50⟩) s6 ?_
  case hy50 => (intro W hSw; (try dsimp only at hSw); go_simp; try with_reducible rfl)
  try simp only [Act.put, List.setIfInBounds_toArray, List.set_cons_zero, List.set_cons_succ]
  refine Gz.one (i := 51) (o := { dst := some 108, op := Op.call { callee := Callee.value (Operand.func 8), args := #[Operand.tmp 104, Operand.tmp 107], argTypes := #[35, 35] }, type := 4, pos := _, after := _, guard := some (44, true) }) (by kernel_rfl) rfl (fun K hK => ?_)
  go_simp
  with_reducible refine Calls.mono (B2 _) ?_
  rintro e w7 ⟨rfl, k7⟩
  have s7 : Kept (fun _ => True) w5 w7 := (s6).trans k7
  clear k7
  try go_wp2_with fail
  refine hK.out _ _ (fun _ => s7) ?_
  clear hK K
  try simp only [Act.put, List.setIfInBounds_toArray, List.set_cons_zero, List.set_cons_succ]
  refine Gz.take (i := 52) (oi := { dst := some 109, op := Op.unOp UnOp.not 4 (Operand.tmp 108), type := 4, pos := _, after := _, guard := some (44, true) }) (v := ?_) rfl (by kernel_rfl) (by kernel_rfl) (by kernel_rfl) (by kernel_rfl) (fun _ _ _ h => h) (Or.inl ⟨by rfl, ?hy52⟩) s7 ?_
  case hy52 => (intro W hSw; (try dsimp only at hSw); go_simp; try with_reducible rfl)
  try simp only [Act.put, List.setIfInBounds_toArray, List.set_cons_zero, List.set_cons_succ]
  refine Gz.take (i := 53) (oi := { dst := some 110, op := Op.pick (Operand.tmp 101) (Operand.tmp 109) (Operand.const (Value.bool false)), type := 4, pos := _, after := _, guard := none }) (v := ?_) rfl (by kernel_rfl) (by kernel_rfl) (by kernel_rfl) (by kernel_rfl) (fun _ _ _ h => h) (Or.inl ⟨by rfl, ?hy53⟩) s7 ?_
  case hy53 => (intro W hSw; (try dsimp only at hSw); go_simp; try with_reducible rfl)
  try simp only [Act.put, List.setIfInBounds_toArray, List.set_cons_zero, List.set_cons_succ]
  refine Gz.take (i := 54) (oi := { dst := some 111, op := Op.move (Operand.tmp 110), type := 4, pos := _, after := _, guard := none }) (v := ?_) rfl (by kernel_rfl) (by kernel_rfl) (by kernel_rfl) (by kernel_rfl) (fun _ _ _ h => h) (Or.inl ⟨by rfl, ?hy54⟩) s7 ?_
  case hy54 => (intro W hSw; (try dsimp only at hSw); go_simp; try with_reducible rfl)
  try simp only [Act.put, List.setIfInBounds_toArray, List.set_cons_zero, List.set_cons_succ]
  refine Gz.take (i := 55) (oi := { dst := some 112, op := Op.move (Operand.tmp 13), type := 22, pos := _, after := _, guard := some (54, true) }) (v := ?_) rfl (by kernel_rfl) (by kernel_rfl) (by kernel_rfl) (by kernel_rfl) (fun _ _ _ h => h) (Or.inl ⟨by rfl, ?hy55⟩) s7 ?_
  case hy55 => (intro W hSw; (try dsimp only at hSw); go_simp; try with_reducible rfl)
  try simp only [Act.put, List.setIfInBounds_toArray, List.set_cons_zero, List.set_cons_succ]
  refine Gz.take (i := 56) (oi := { dst := some 113, op := Op.indexAddr 22 (Operand.tmp 112) (Operand.const (Value.int IntKind.i64 0)), type := 0, pos := _, after := _, guard := some (54, true) }) (v := ?_) rfl (by kernel_rfl) (by kernel_rfl) (by kernel_rfl) (by kernel_rfl) (fun _ _ _ h => h) (Or.inl ⟨by rfl, ?hy56⟩) s7 ?_
  case hy56 => (intro W hSw; (try dsimp only at hSw); go_simp; try with_reducible rfl)
  try simp only [Act.put, List.setIfInBounds_toArray, List.set_cons_zero, List.set_cons_succ]
  refine Gz.take (i := 57) (oi := { dst := some 114, op := Op.load 35 (Operand.tmp 113), type := 35, pos := _, after := _, guard := some (54, true) }) (v := ?_) rfl (by kernel_rfl) (by kernel_rfl) (by kernel_rfl) (by kernel_rfl) (fun _ _ _ h => h) (Or.inl ⟨by rfl, ?hy57⟩) s7 ?_
  case hy57 => (intro W hSw; (try dsimp only at hSw); go_simp; try with_reducible rfl)
  try simp only [Act.put, List.setIfInBounds_toArray, List.set_cons_zero, List.set_cons_succ]
  refine Gz.take (i := 58) (oi := { dst := some 115, op := Op.move (Operand.tmp 13), type := 22, pos := _, after := _, guard := some (54, true) }) (v := ?_) rfl (by kernel_rfl) (by kernel_rfl) (by kernel_rfl) (by kernel_rfl) (fun _ _ _ h => h) (Or.inl ⟨by rfl, ?hy58⟩) s7 ?_
  case hy58 => (intro W hSw; (try dsimp only at hSw); go_simp; try with_reducible rfl)
  try simp only [Act.put, List.setIfInBounds_toArray, List.set_cons_zero, List.set_cons_succ]
  refine Gz.take (i := 59) (oi := { dst := some 116, op := Op.indexAddr 22 (Operand.tmp 115) (Operand.const (Value.int IntKind.i64 0)), type := 0, pos := _, after := _, guard := some (54, true) }) (v := ?_) rfl (by kernel_rfl) (by kernel_rfl) (by kernel_rfl) (by kernel_rfl) (fun _ _ _ h => h) (Or.inl ⟨by rfl, ?hy59⟩) s7 ?_
  case hy59 => (intro W hSw; (try dsimp only at hSw); go_simp; try with_reducible rfl)
  try simp only [Act.put, List.setIfInBounds_toArray, List.set_cons_zero, List.set_cons_succ]
  refine Gz.take (i := 60) (oi := { dst := some 117, op := Op.load 35 (Operand.tmp 116), type := 35, pos := _, after := _, guard := some (54, true) }) (v := ?_) rfl (by kernel_rfl) (by kernel_rfl) (by kernel_rfl) (by kernel_rfl) (fun _ _ _ h => h) (Or.inl ⟨by rfl, ?hy60⟩) s7 ?_
  case hy60 => (intro W hSw; (try dsimp only at hSw); go_simp; try with_reducible rfl)
  try simp only [Act.put, List.setIfInBounds_toArray, List.set_cons_zero, List.set_cons_succ]
  refine Gz.one (i := 61) (o := { dst := some 118, op := Op.call { callee := Callee.value (Operand.func 8), args := #[Operand.tmp 114, Operand.tmp 117], argTypes := #[35, 35] }, type := 4, pos := _, after := _, guard := some (54, true) }) (by kernel_rfl) rfl (fun K hK => ?_)
  go_simp
  with_reducible refine Calls.mono (B3 _) ?_
  rintro e w8 ⟨rfl, k8⟩
  have s8 : Kept (fun _ => True) w5 w8 := (s7).trans k8
  clear k8
  try go_wp2_with fail
  refine hK.out _ _ (fun _ => s8) ?_
  clear hK K
  try simp only [Act.put, List.setIfInBounds_toArray, List.set_cons_zero, List.set_cons_succ]
  refine Gz.take (i := 62) (oi := { dst := some 119, op := Op.unOp UnOp.not 4 (Operand.tmp 118), type := 4, pos := _, after := _, guard := some (54, true) }) (v := ?_) rfl (by kernel_rfl) (by kernel_rfl) (by kernel_rfl) (by kernel_rfl) (fun _ _ _ h => h) (Or.inl ⟨by rfl, ?hy62⟩) s8 ?_
  case hy62 => (intro W hSw; (try dsimp only at hSw); go_simp; try with_reducible rfl)
  try simp only [Act.put, List.setIfInBounds_toArray, List.set_cons_zero, List.set_cons_succ]
  refine Gz.take (i := 63) (oi := { dst := some 120, op := Op.pick (Operand.tmp 111) (Operand.tmp 119) (Operand.const (Value.bool false)), type := 4, pos := _, after := _, guard := none }) (v := ?_) rfl (by kernel_rfl) (by kernel_rfl) (by kernel_rfl) (by kernel_rfl) (fun _ _ _ h => h) (Or.inl ⟨by rfl, ?hy63⟩) s8 ?_
  case hy63 => (intro W hSw; (try dsimp only at hSw); go_simp; try with_reducible rfl)
  try simp only [Act.put, List.setIfInBounds_toArray, List.set_cons_zero, List.set_cons_succ]
  refine Gz.take (i := 64) (oi := { dst := some 121, op := Op.move (Operand.tmp 120), type := 4, pos := _, after := _, guard := none }) (v := ?_) rfl (by kernel_rfl) (by kernel_rfl) (by kernel_rfl) (by kernel_rfl) (fun _ _ _ h => h) (Or.inl ⟨by rfl, ?hy64⟩) s8 ?_
  case hy64 => (intro W hSw; (try dsimp only at hSw); go_simp; try with_reducible rfl)
  try simp only [Act.put, List.setIfInBounds_toArray, List.set_cons_zero, List.set_cons_succ]
  refine Gz.take (i := 65) (oi := { dst := some 122, op := Op.move (Operand.tmp 13), type := 22, pos := _, after := _, guard := some (64, true) }) (v := ?_) rfl (by kernel_rfl) (by kernel_rfl) (by kernel_rfl) (by kernel_rfl) (fun _ _ _ h => h) (Or.inl ⟨by rfl, ?hy65⟩) s8 ?_
  case hy65 => (intro W hSw; (try dsimp only at hSw); go_simp; try with_reducible rfl)
  try simp only [Act.put, List.setIfInBounds_toArray, List.set_cons_zero, List.set_cons_succ]
  refine Gz.one (i := 66) (o := { dst := some 123, op := Op.call { callee := Callee.value (Operand.func 9), args := #[Operand.tmp 122, Operand.const (Value.int IntKind.i64 1)], argTypes := #[22, 3] }, type := 3, pos := _, after := _, guard := some (64, true) }) (by kernel_rfl) rfl (fun K hK => ?_)
  go_simp
  with_reducible refine Calls.mono (N1 _ s8) ?_
  rintro e w9 ⟨rfl, k9⟩
  have s9 : Kept (fun _ => True) w5 w9 := (s8).trans k9
  clear k9
  try go_wp2_with fail
  refine hK.out _ _ (fun _ => s9) ?_
  clear hK K
  try simp only [Act.put, List.setIfInBounds_toArray, List.set_cons_zero, List.set_cons_succ]
  refine Gz.take (i := 67) (oi := { dst := some 124, op := Op.binOp BinOp.eql 3 (Operand.tmp 123) (Operand.const (Value.int IntKind.i64 1)) 3, type := 4, pos := _, after := _, guard := some (64, true) }) (v := ?_) rfl (by kernel_rfl) (by kernel_rfl) (by kernel_rfl) (by kernel_rfl) (fun _ _ _ h => h) (Or.inl ⟨by rfl, ?hy67⟩) s9 ?_
  case hy67 => (intro W hSw; (try dsimp only at hSw); go_simp; try with_reducible rfl)
  try simp only [Act.put, List.setIfInBounds_toArray, List.set_cons_zero, List.set_cons_succ]
  refine Gz.take (i := 68) (oi := { dst := some 125, op := Op.pick (Operand.tmp 121) (Operand.tmp 124) (Operand.const (Value.bool false)), type := 4, pos := _, after := _, guard := none }) (v := ?_) rfl (by kernel_rfl) (by kernel_rfl) (by kernel_rfl) (by kernel_rfl) (fun _ _ _ h => h) (Or.inl ⟨by rfl, ?hy68⟩) s9 ?_
  case hy68 => (intro W hSw; (try dsimp only at hSw); go_simp; try with_reducible rfl)
  try simp only [Act.put, List.setIfInBounds_toArray, List.set_cons_zero, List.set_cons_succ]
  refine Gz.take (i := 69) (oi := { dst := some 126, op := Op.move (Operand.tmp 125), type := 4, pos := _, after := _, guard := none }) (v := ?_) rfl (by kernel_rfl) (by kernel_rfl) (by kernel_rfl) (by kernel_rfl) (fun _ _ _ h => h) (Or.inl ⟨by rfl, ?hy69⟩) s9 ?_
  case hy69 => (intro W hSw; (try dsimp only at hSw); go_simp; try with_reducible rfl)
  try simp only [Act.put, List.setIfInBounds_toArray, List.set_cons_zero, List.set_cons_succ]
  refine Gz.take (i := 70) (oi := { dst := some 127, op := Op.move (Operand.tmp 13), type := 22, pos := _, after := _, guard := some (69, true) }) (v := ?_) rfl (by kernel_rfl) (by kernel_rfl) (by kernel_rfl) (by kernel_rfl) (fun _ _ _ h => h) (Or.inl ⟨by rfl, ?hy70⟩) s9 ?_
  case hy70 => (intro W hSw; (try dsimp only at hSw); go_simp; try with_reducible rfl)
  try simp only [Act.put, List.setIfInBounds_toArray, List.set_cons_zero, List.set_cons_succ]
  refine Gz.one (i := 71) (o := { dst := some 128, op := Op.call { callee := Callee.value (Operand.func 9), args := #[Operand.tmp 127, Operand.const (Value.int IntKind.i64 0)], argTypes := #[22, 3] }, type := 3, pos := _, after := _, guard := some (69, true) }) (by kernel_rfl) rfl (fun K hK => ?_)
  go_simp
  with_reducible refine Calls.mono (N2 _ s9) ?_
  rintro e w10 ⟨rfl, k10⟩
  have s10 : Kept (fun _ => True) w5 w10 := (s9).trans k10
  clear k10
  try go_wp2_with fail
  refine hK.out _ _ (fun _ => s10) ?_
  clear hK K
  try simp only [Act.put, List.setIfInBounds_toArray, List.set_cons_zero, List.set_cons_succ]
  refine Gz.take (i := 72) (oi := { dst := some 129, op := Op.binOp BinOp.eql 3 (Operand.tmp 128) (Operand.const (Value.int IntKind.i64 1)) 3, type := 4, pos := _, after := _, guard := some (69, true) }) (v := ?_) rfl (by kernel_rfl) (by kernel_rfl) (by kernel_rfl) (by kernel_rfl) (fun _ _ _ h => h) (Or.inl ⟨by rfl, ?hy72⟩) s10 ?_
  case hy72 => (intro W hSw; (try dsimp only at hSw); go_simp; try with_reducible rfl)
  try simp only [Act.put, List.setIfInBounds_toArray, List.set_cons_zero, List.set_cons_succ]
  refine Gz.take (i := 73) (oi := { dst := some 130, op := Op.pick (Operand.tmp 126) (Operand.tmp 129) (Operand.const (Value.bool false)), type := 4, pos := _, after := _, guard := none }) (v := ?_) rfl (by kernel_rfl) (by kernel_rfl) (by kernel_rfl) (by kernel_rfl) (fun _ _ _ h => h) (Or.inl ⟨by rfl, ?hy73⟩) s10 ?_
  case hy73 => (intro W hSw; (try dsimp only at hSw); go_simp; try with_reducible rfl)
  try simp only [Act.put, List.setIfInBounds_toArray, List.set_cons_zero, List.set_cons_succ]
  refine Gz.take (i := 74) (oi := { dst := some 131, op := Op.move (Operand.tmp 130), type := 4, pos := _, after := _, guard := none }) (v := ?_) rfl (by kernel_rfl) (by kernel_rfl) (by kernel_rfl) (by kernel_rfl) (fun _ _ _ h => h) (Or.inl ⟨by rfl, ?hy74⟩) s10 ?_
  case hy74 => (intro W hSw; (try dsimp only at hSw); go_simp; try with_reducible rfl)
  try simp only [Act.put, List.setIfInBounds_toArray, List.set_cons_zero, List.set_cons_succ]
  refine Gz.take (i := 75) (oi := { dst := some 132, op := Op.move (Operand.tmp 13), type := 22, pos := _, after := _, guard := some (74, true) }) (v := ?_) rfl (by kernel_rfl) (by kernel_rfl) (by kernel_rfl) (by kernel_rfl) (fun _ _ _ h => h) (Or.inl ⟨by rfl, ?hy75⟩) s10 ?_
  case hy75 => (intro W hSw; (try dsimp only at hSw); go_simp; try with_reducible rfl)
  try simp only [Act.put, List.setIfInBounds_toArray, List.set_cons_zero, List.set_cons_succ]
  refine Gz.one (i := 76) (o := { dst := some 133, op := Op.call { callee := Callee.value (Operand.func 9), args := #[Operand.tmp 132, Operand.const (Value.int IntKind.i64 2)], argTypes := #[22, 3] }, type := 3, pos := _, after := _, guard := some (74, true) }) (by kernel_rfl) rfl (fun K hK => ?_)
  go_simp
  with_reducible refine Calls.mono (N3 _ s10) ?_
  rintro e w11 ⟨rfl, k11⟩
  have s11 : Kept (fun _ => True) w5 w11 := (s10).trans k11
  clear k11
  try go_wp2_with fail
  refine hK.out _ _ (fun _ => s11) ?_
  clear hK K
  try simp only [Act.put, List.setIfInBounds_toArray, List.set_cons_zero, List.set_cons_succ]
  refine Gz.take (i := 77) (oi := { dst := some 134, op := Op.binOp BinOp.eql 3 (Operand.tmp 133) (Operand.const (Value.int IntKind.i64 0)) 3, type := 4, pos := _, after := _, guard := some (74, true) }) (v := ?_) rfl (by kernel_rfl) (by kernel_rfl) (by kernel_rfl) (by kernel_rfl) (fun _ _ _ h => h) (Or.inl ⟨by rfl, ?hy77⟩) s11 ?_
  case hy77 => (intro W hSw; (try dsimp only at hSw); go_simp; try with_reducible rfl)
  try simp only [Act.put, List.setIfInBounds_toArray, List.set_cons_zero, List.set_cons_succ]
  refine Gz.take (i := 78) (oi := { dst := some 135, op := Op.pick (Operand.tmp 131) (Operand.tmp 134) (Operand.const (Value.bool false)), type := 4, pos := _, after := _, guard := none }) (v := ?_) rfl (by kernel_rfl) (by kernel_rfl) (by kernel_rfl) (by kernel_rfl) (fun _ _ _ h => h) (Or.inl ⟨by rfl, ?hy78⟩) s11 ?_
  case hy78 => (intro W hSw; (try dsimp only at hSw); go_simp; try with_reducible rfl)
  try simp only [Act.put, List.setIfInBounds_toArray, List.set_cons_zero, List.set_cons_succ]
  refine Gz.take (i := 79) (oi := { dst := some 136, op := Op.move (Operand.tmp 135), type := 4, pos := _, after := _, guard := none }) (v := ?_) rfl (by kernel_rfl) (by kernel_rfl) (by kernel_rfl) (by kernel_rfl) (fun _ _ _ h => h) (Or.inl ⟨by rfl, ?hy79⟩) s11 ?_
  case hy79 => (intro W hSw; (try dsimp only at hSw); go_simp; try with_reducible rfl)
  try simp only [Act.put, List.setIfInBounds_toArray, List.set_cons_zero, List.set_cons_succ]
  refine Gz.one (i := 80) (o := { dst := some 137, op := Op.call { callee := Callee.value (Operand.func 10), args := #[], argTypes := #[] }, type := 4, pos := _, after := _, guard := some (79, true) }) (by kernel_rfl) rfl (fun K hK => ?_)
  go_simp
  with_reducible refine Calls.mono (known_any _) ?_
  rintro e w12 ⟨rfl, k12⟩
  have s12 : Kept (fun _ => True) w5 w12 := (s11).trans k12
  clear k12
  try go_wp2_with fail
  refine hK.out _ _ (fun _ => s12) ?_
  clear hK K
  try simp only [Act.put, List.setIfInBounds_toArray, List.set_cons_zero, List.set_cons_succ]
  refine Gz.take (i := 81) (oi := { dst := some 138, op := Op.pick (Operand.tmp 136) (Operand.tmp 137) (Operand.const (Value.bool false)), type := 4, pos := _, after := _, guard := none }) (v := ?_) rfl (by kernel_rfl) (by kernel_rfl) (by kernel_rfl) (by kernel_rfl) (fun _ _ _ h => h) (Or.inl ⟨by rfl, ?hy81⟩) s12 ?_
  case hy81 => (intro W hSw; (try dsimp only at hSw); go_simp; try with_reducible rfl)
  try simp only [Act.put, List.setIfInBounds_toArray, List.set_cons_zero, List.set_cons_succ]
  refine Gz.take (i := 82) (oi := { dst := some 0, op := Op.assign (Operand.tmp 138), type := 4, pos := _, after := _, guard := none }) (v := ?_) rfl (by kernel_rfl) (by kernel_rfl) (by kernel_rfl) (by kernel_rfl) (fun _ _ _ h => h) (Or.inl ⟨by rfl, ?hy82⟩) s12 ?_
  case hy82 => (intro W hSw; (try dsimp only at hSw); go_simp; try with_reducible rfl)
  try simp only [Act.put, List.setIfInBounds_toArray, List.set_cons_zero]
  refine Gz.done (by kernel_rfl) ?_ _
  go_wp2_with fail
  go_ret
  exact ⟨rfl, K5.out.trans s12⟩

end Go.Proofs.Ytllopkebamlgeaa
