/-
  RangesNumbers.
-/
import Derived.Test.YtclgdgdponoomaaMBx
import Derived.Test.YtclgdgdponoomaaM5
import Derived.Test.YtclgdgdponoomaaM9
namespace Go.Proofs.Ytclgdgdponoomaa
open Go.RowKit

theorem zero_rgt : rgt 0 [] = false := rfl
theorem two_wrong : rgt 1 [⟨0, 9, 0⟩, ⟨9, 256, 0⟩] = false := by kernel_rfl
theorem load_one : loadM [1] = none := by kernel_rfl
/-- Parts that were written out. -/
theorem pv_one {w : World} {b : Nat} {fr : Nat × Nat} {t : TypeId} {x y z : Int} (h : w.heap[b]? = some (.cells #[.int .i64 x, .int .i64 y, .int .i64 z] t fr)) : Pv w (some ⟨b, 0, none⟩) [⟨x, y, z⟩] :=
  ⟨fun _ => ⟨b, 0, rfl, lt_of_block h, fun i hi => by
    obtain rfl : i = 0 := by simpa using hi
    exact ⟨by simp [World.cell?, h], by simp [World.cell?, h], by simp [World.cell?, h]⟩⟩⟩
theorem pv_two {w : World} {b : Nat} {fr : Nat × Nat} {t : TypeId} {x y z x' y' z' : Int} (h : w.heap[b]? = some (.cells #[.int .i64 x, .int .i64 y, .int .i64 z, .int .i64 x', .int .i64 y', .int .i64 z'] t fr)) : Pv w (some ⟨b, 0, none⟩) [⟨x, y, z⟩, ⟨x', y', z'⟩] :=
  ⟨fun _ => ⟨b, 0, rfl, lt_of_block h, fun i hi => by
    match i, hi with
    | 0, _ => exact ⟨by simp [World.cell?, h], by simp [World.cell?, h], by simp [World.cell?, h]⟩
    | 1, _ => exact ⟨by simp [World.cell?, h], by simp [World.cell?, h], by simp [World.cell?, h]⟩⟩⟩

set_option maxRecDepth 100000 in
set_option maxHeartbeats 8000000 in
theorem rangesNumbers_any (w : World) : Calls Try.prog 3 #[] w fun e w' => e = .returned (.bool true) ∧ Kept (fun _ => True) w w' := by
  have hr := newP_rgt 3 (by decide) (by decide)
  have ht := newP_told 3 (by decide) (by decide)
  have hl := rgt_most (rgt_iff.1 hr).2.2
  have cn := fun W => new_any (w := W) 3 (by decide) (by decide)
  have crn := fun W => rnew_any (w := W) 3 (by decide) (by decide)
  simp only [Int.cast_ofNat_Int] at cn crn
  have cs := fun W ao cap (h : Pv W ao (newP 3)) => same_any (ep := 1) (cap := cap) h rfl ht
  have HLS : Hid (loadM (savedM 1 (newP 3)) = some (1, newP 3)) := load_saved hr
  generalize newP 3 = P at *
  generalize mcs 1 (ownH P) = M at *
  have CRN : Hid _ := crn
  have CS : Hid (∀ W ao cap, Pv W ao P → Calls Try.prog 14 #[.agg #[.int .i64 1, .slice ao P.length cap], .agg M.toArray] W fun e w' => e = .returned (.bool true) ∧ Kept (fun _ => True) W w') := cs
  clear ht crn cs
  go_enter Try.func3, Try.ntmps3
  go_wp2_with fail
  refine Calls.mono (new_bad 0 (by decide)) ?_
  rintro e w1 ⟨rfl, k1⟩
  have K1 : Hid (Kept (fun _ => True) w (w1.alloc (.cells #[.int .i64 0, .slice none 0 0] 24))) := k1.alloc _
  clear k1
  go_wp2_with fail
  generalize w1.alloc (.cells #[.int .i64 0, .slice none 0 0] 24) = v1 at *
  generalize w1.heap.size = Y1 at *
  refine Calls.mono (new_bad 4 (by decide)) ?_
  rintro e w2 ⟨rfl, k2⟩
  have K2 : Hid (Kept (fun _ => True) w (w2.alloc (.cells #[.int .i64 0, .slice none 0 0] 24))) := (K1.out.trans k2).alloc _
  clear k2 K1
  go_wp2_with fail
  generalize w2.alloc (.cells #[.int .i64 0, .slice none 0 0] 24) = v2 at *
  generalize w2.heap.size = Y2 at *
  with_reducible refine Calls.mono (cn _) ?_
  rintro e w3 ⟨a3, p3, rfl, ho3, k3⟩
  have HB3 : Hid (Bx (w3.alloc (.cells #[.int .i64 1, .slice a3 P.length p3] 24)) w3.heap.size a3 p3 1 P) := Bx.made ho3.view
  have K3 : Hid (Kept (fun _ => True) w (w3.alloc (.cells #[.int .i64 1, .slice a3 P.length p3] 24))) := (K2.out.trans k3).alloc _
  clear k3 K2 ho3 cn
  have M5 := move_bad (cap := p3) (ep := 1) HB3.out.view (by omega) 5 5 0 (.inr (.inr (.inl (by decide))))
  go_wp2_with fail
  generalize w3.alloc (.cells #[.int .i64 1, .slice a3 P.length p3] 24) = v3 at *
  generalize w3.heap.size = X at *
  with_reducible refine Calls.mono M5 ?_
  rintro e w4 ⟨rfl, k4⟩
  have HB4 : Hid (Bx (w4.alloc (.cells #[.int .i64 0, .slice none 0 0] 24)) X a3 p3 1 P) := HB3.out.all (k4.alloc _)
  have K4 : Hid (Kept (fun _ => True) w (w4.alloc (.cells #[.int .i64 0, .slice none 0 0] 24))) := (K3.out.trans k4).alloc _
  have M6 := move_bad (cap := p3) (ep := 1) HB4.out.view (by omega) 0 257 0 (.inr (.inr (.inr (.inl (by decide)))))
  obtain ⟨x0, x1⟩ := HB4.out.cells
  clear k4 K3 HB3 M5
  go_wp2_with fail
  generalize w4.alloc (.cells #[.int .i64 0, .slice none 0 0] 24) = v4 at *
  generalize w4.heap.size = Y4 at *
  with_reducible refine Calls.mono M6 ?_
  rintro e w5 ⟨rfl, k5⟩
  have HB5 : Hid (Bx (w5.alloc (.cells #[.int .i64 0, .slice none 0 0] 24)) X a3 p3 1 P) := HB4.out.all (k5.alloc _)
  have K5 : Hid (Kept (fun _ => True) w (w5.alloc (.cells #[.int .i64 0, .slice none 0 0] 24))) := (K4.out.trans k5).alloc _
  have M7 := move_bad (cap := p3) (ep := 1) HB5.out.view (by omega) 0 5 3 (.inr (.inr (.inr (.inr (by decide)))))
  obtain ⟨y0, y1⟩ := HB5.out.cells
  clear k5 K4 HB4 M6 x0 x1
  go_wp2_with fail
  generalize w5.alloc (.cells #[.int .i64 0, .slice none 0 0] 24) = v5 at *
  generalize w5.heap.size = Y5 at *
  with_reducible refine Calls.mono M7 ?_
  rintro e w6 ⟨rfl, k6⟩
  have HB6 : Hid (Bx (w6.alloc (.cells #[.int .i64 0, .slice none 0 0] 24)) X a3 p3 1 P) := HB5.out.all (k6.alloc _)
  have K6 : Hid (Kept (fun _ => True) w (w6.alloc (.cells #[.int .i64 0, .slice none 0 0] 24))) := (K5.out.trans k6).alloc _
  have M8 := move_bad (w := w6.alloc (.cells #[.int .i64 0, .slice none 0 0] 24)) (ao := none) (cap := 0) (ep := 0) (ps := []) (Pv.nil _ _) (by decide) 0 5 0 (.inl zero_rgt)
  simp only [List.length_nil] at M8
  clear k6 K5 HB5 M7 y0 y1
  go_wp2_with fail
  generalize w6.alloc (.cells #[.int .i64 0, .slice none 0 0] 24) = v6 at *
  generalize w6.heap.size = Y6 at *
  with_reducible refine Calls.mono M8 ?_
  rintro e w7 ⟨rfl, k7⟩
  have kA : Kept (fun _ => True) v6 (((w7.alloc (.cells #[.int .i64 0, .slice none 0 0] 24)).alloc (.cells #[.int .i64 0, .int .i64 256, .int .i64 0] 30)).alloc (.cells #[.int .i64 1073741824, .slice (some ⟨w7.heap.size + 1, 0, none⟩) 1 1] 24)) := ((k7.alloc _).alloc _).alloc _
  have s1 : (w7.alloc (.cells #[.int .i64 0, .slice none 0 0] 24)).heap.size = w7.heap.size + 1 := by simp
  have s2 : ((w7.alloc (.cells #[.int .i64 0, .slice none 0 0] 24)).alloc (.cells #[.int .i64 0, .int .i64 256, .int .i64 0] 30)).heap.size = w7.heap.size + 2 := by simp
  have hP := heap_alloc_new (w7.alloc (.cells #[.int .i64 0, .slice none 0 0] 24)) (.cells #[.int .i64 0, .int .i64 256, .int .i64 0] 30)
  rw [s1] at hP
  have hP2 : (((w7.alloc (.cells #[.int .i64 0, .slice none 0 0] 24)).alloc (.cells #[.int .i64 0, .int .i64 256, .int .i64 0] 30)).alloc (.cells #[.int .i64 1073741824, .slice (some ⟨w7.heap.size + 1, 0, none⟩) 1 1] 24)).heap[w7.heap.size + 1]? = some (.cells #[.int .i64 0, .int .i64 256, .int .i64 0] 30 (0, 0)) := by
    rw [Below.heap_alloc _ _ _ (by rw [s2]; omega)]; exact hP
  have hO := heap_alloc_new ((w7.alloc (.cells #[.int .i64 0, .slice none 0 0] 24)).alloc (.cells #[.int .i64 0, .int .i64 256, .int .i64 0] 30)) (.cells #[.int .i64 1073741824, .slice (some ⟨w7.heap.size + 1, 0, none⟩) 1 1] 24)
  rw [s2] at hO
  have HBo : Hid (Bx (((w7.alloc (.cells #[.int .i64 0, .slice none 0 0] 24)).alloc (.cells #[.int .i64 0, .int .i64 256, .int .i64 0] 30)).alloc (.cells #[.int .i64 1073741824, .slice (some ⟨w7.heap.size + 1, 0, none⟩) 1 1] 24)) (w7.heap.size + 2) (some ⟨w7.heap.size + 1, 0, none⟩) 1 1073741824 [⟨0, 256, 0⟩]) := ⟨hO, pv_one hP2⟩
  have HB7 : Hid (Bx (((w7.alloc (.cells #[.int .i64 0, .slice none 0 0] 24)).alloc (.cells #[.int .i64 0, .int .i64 256, .int .i64 0] 30)).alloc (.cells #[.int .i64 1073741824, .slice (some ⟨w7.heap.size + 1, 0, none⟩) 1 1] 24)) X a3 p3 1 P) := HB6.out.all kA
  have K7 : Hid (Kept (fun _ => True) w (((w7.alloc (.cells #[.int .i64 0, .slice none 0 0] 24)).alloc (.cells #[.int .i64 0, .int .i64 256, .int .i64 0] 30)).alloc (.cells #[.int .i64 1073741824, .slice (some ⟨w7.heap.size + 1, 0, none⟩) 1 1] 24))) := K6.out.trans kA
  have M9 := move_last (cap := 1) HBo.out.view (by decide) 0 5 1 (by decide) (by decide) (by decide) (by decide) (by decide)
  simp only [List.length_singleton] at M9
  clear M8 kA s1 s2 hP hP2 hO k7 K6 HB6
  go_wp2_with fail
  generalize (((w7.alloc (.cells #[.int .i64 0, .slice none 0 0] 24)).alloc (.cells #[.int .i64 0, .int .i64 256, .int .i64 0] 30)).alloc (.cells #[.int .i64 1073741824, .slice (some ⟨w7.heap.size + 1, 0, none⟩) 1 1] 24)) = v7 at *
  generalize w7.heap.size = Y7 at *
  with_reducible refine Calls.mono M9 ?_
  rintro e w8 ⟨rfl, k8⟩
  have HBo8 : Hid (Bx (w8.alloc (.cells #[.int .i64 0, .slice none 0 0] 24)) (Y7 + 2) (some ⟨Y7 + 1, 0, none⟩) 1 1073741824 [⟨0, 256, 0⟩]) := HBo.out.all (k8.alloc _)
  have HB8 : Hid (Bx (w8.alloc (.cells #[.int .i64 0, .slice none 0 0] 24)) X a3 p3 1 P) := HB7.out.all (k8.alloc _)
  have K8 : Hid (Kept (fun _ => True) w (w8.alloc (.cells #[.int .i64 0, .slice none 0 0] 24))) := (K7.out.trans k8).alloc _
  have MA := Owner_bad (w := w8.alloc (.cells #[.int .i64 0, .slice none 0 0] 24)) (ao := none) (cap := 0) (ep := 0) (ps := []) (Pv.nil _ _) (by decide) [97] zero_rgt
  simp only [List.length_nil] at MA
  clear M9 k8 HBo HB7 K7
  go_wp2_with fail
  generalize w8.alloc (.cells #[.int .i64 0, .slice none 0 0] 24) = v8 at *
  generalize w8.heap.size = Y8 at *
  with_reducible refine Calls.mono MA ?_
  rintro e w9 ⟨rfl, k9⟩
  have HBo9 : Hid (Bx w9 (Y7 + 2) (some ⟨Y7 + 1, 0, none⟩) 1 1073741824 [⟨0, 256, 0⟩]) := HBo8.out.all k9
  have HB9 : Hid (Bx w9 X a3 p3 1 P) := HB8.out.all k9
  have K9 : Hid (Kept (fun _ => True) w w9) := K8.out.trans k9
  have MS := save_any (cap := p3) (ep := 1) HB9.out.view (by omega)
  have hsl := savedM_length 1 P
  generalize savedM 1 P = sv at *
  have hsb : sv.length ≤ 7000 := by omega
  obtain ⟨x0, x1⟩ := HB9.out.cells
  clear MA k9 HBo8 HB8 K8 hsl
  go_wp2_with fail
  with_reducible refine Calls.mono MS ?_
  rintro e w10 ⟨D, rfl, hD, k10, -⟩
  have cl := load_any (bs := sv) (cap := sv.length) (by omega) (Blm.has hD)
  rw [HLS.out] at cl
  have HBo10 : Hid (Bx w10 (Y7 + 2) (some ⟨Y7 + 1, 0, none⟩) 1 1073741824 [⟨0, 256, 0⟩]) := HBo9.out.all k10
  have HB10 : Hid (Bx w10 X a3 p3 1 P) := HB9.out.all k10
  have K10 : Hid (Kept (fun _ => True) w w10) := K9.out.trans k10
  clear MS hD k10 HBo9 HB9 K9 HLS x0 x1
  go_wp2_with fail
  with_reducible refine Calls.mono cl ?_
  rintro e w11 ⟨h11, k11⟩
  rcases h11 with ⟨h11, -⟩ | ⟨e3, ps3, b3, q3, h11, rfl, ho11⟩
  · cases h11
  simp only [Option.some.injEq, Prod.mk.injEq] at h11
  obtain ⟨rfl, rfl⟩ := h11
  have HBk : Hid (Bx (w11.alloc (.cells #[.int .i64 1, .slice b3 P.length q3] 24)) w11.heap.size b3 q3 1 P) := Bx.made ho11.view
  have HBo11 : Hid (Bx (w11.alloc (.cells #[.int .i64 1, .slice b3 P.length q3] 24)) (Y7 + 2) (some ⟨Y7 + 1, 0, none⟩) 1 1073741824 [⟨0, 256, 0⟩]) := HBo10.out.all (k11.alloc _)
  have HB11 : Hid (Bx (w11.alloc (.cells #[.int .i64 1, .slice b3 P.length q3] 24)) X a3 p3 1 P) := HB10.out.all (k11.alloc _)
  have K11 : Hid (Kept (fun _ => True) w (w11.alloc (.cells #[.int .i64 1, .slice b3 P.length q3] 24))) := (K10.out.trans k11).alloc _
  clear cl k11 ho11 HBo10 HB10 K10
  have h12 := heap_alloc_new (w11.alloc (.cells #[.int .i64 1, .slice b3 P.length q3] 24)) (.cells #[.int .u8 1] 5)
  have c12 := load_any (bs := [1]) (cap := 1) (by decide) (has_row (bs := [1]) h12)
  rw [load_one, show (w11.alloc (.cells #[.int .i64 1, .slice b3 P.length q3] 24)).heap.size = w11.heap.size + 1 by simp] at c12
  simp only [List.length_singleton] at c12
  have kq : Kept (fun _ => True) (w11.alloc (.cells #[.int .i64 1, .slice b3 P.length q3] 24)) ((w11.alloc (.cells #[.int .i64 1, .slice b3 P.length q3] 24)).alloc (.cells #[.int .u8 1] 5)) := (Kept.refl _ _).alloc _
  clear h12
  go_wp2_with fail
  with_reducible refine Calls.mono c12 ?_
  rintro e w12 ⟨h12, k12⟩
  have he : e = .returned (.tuple #[.agg #[.int .i64 0, .slice none 0 0], .int .i64 12]) := by
    rcases h12 with ⟨-, h⟩ | ⟨_, _, _, _, h, _⟩
    · exact h
    · cases h
  subst he
  clear h12
  have kz : Kept (fun _ => True) (w11.alloc (.cells #[.int .i64 1, .slice b3 P.length q3] 24)) (w12.alloc (.cells #[.int .i64 0, .slice none 0 0] 24)) := (kq.trans k12).alloc _
  have HBm : Hid (Bx (w12.alloc (.cells #[.int .i64 0, .slice none 0 0] 24)) X a3 p3 1 P) := HB11.out.all kz
  have HBk2 : Hid (Bx (w12.alloc (.cells #[.int .i64 0, .slice none 0 0] 24)) w11.heap.size b3 q3 1 P) := HBk.out.all kz
  have HBo2 : Hid (Bx (w12.alloc (.cells #[.int .i64 0, .slice none 0 0] 24)) (Y7 + 1 + 1) (some ⟨Y7 + 1, 0, none⟩) 1 1073741824 [⟨0, 256, 0⟩]) := HBo11.out.all kz
  have KZ : Hid (Kept (fun _ => True) w (w12.alloc (.cells #[.int .i64 0, .slice none 0 0] 24))) := K11.out.trans kz
  clear kq k12 kz HB11 HBk HBo11 K11 c12
  go_wp2_with fail
  generalize w12.alloc (.cells #[.int .i64 0, .slice none 0 0] 24) = v at *
  generalize w12.heap.size = Y12 at *
  generalize w11.heap.size = Yk at *
  generalize Y7 + 1 + 1 = Yo at *
  have X0 : ∀ W, Kept (fun _ => True) v W → W.cell? ⟨X, 0, none⟩ = some (.int .i64 1) := fun W q => (HBm.out.all q).cells.1
  have X1 : ∀ W, Kept (fun _ => True) v W → W.cell? ⟨X, 1, none⟩ = some (.slice a3 P.length p3) := fun W q => (HBm.out.all q).cells.2
  have G0 : ∀ W, Kept (fun _ => True) v W → W.cell? ⟨Yk, 0, none⟩ = some (.int .i64 1) := fun W q => (HBk2.out.all q).cells.1
  have G1 : ∀ W, Kept (fun _ => True) v W → W.cell? ⟨Yk, 1, none⟩ = some (.slice b3 P.length q3) := fun W q => (HBk2.out.all q).cells.2
  have O0 : ∀ W, Kept (fun _ => True) v W → W.cell? ⟨Yo, 0, none⟩ = some (.int .i64 1073741824) := fun W q => (HBo2.out.all q).cells.1
  have O1 : ∀ W, Kept (fun _ => True) v W → W.cell? ⟨Yo, 1, none⟩ = some (.slice (some ⟨Y7 + 1, 0, none⟩) 1 1) := fun W q => (HBo2.out.all q).cells.2
  have CR1 : Hid (∀ W, Kept (fun _ => True) v W → Calls Try.prog 16 #[.agg #[.int .i64 1, .slice a3 P.length p3]] W fun e w' => e = .returned (.bool true) ∧ Kept (fun _ => True) W w') := fun W q => by
    have := right_any (cap := p3) (ep := 1) (HBm.out.all q).view (by omega)
    rw [hr] at this
    exact this
  have CR2 : Hid (∀ W, Kept (fun _ => True) v W → Calls Try.prog 16 #[.agg #[.int .i64 1073741824, .slice (some ⟨Y7 + 1, 0, none⟩) 1 1]] W fun e w' => e = .returned (.bool true) ∧ Kept (fun _ => True) W w') := fun W q => right_any (cap := 1) (ep := 1073741824) (ps := [⟨0, 256, 0⟩]) (HBo2.out.all q).view (by decide)
  have CR3 : Hid (∀ W B, W.heap[B]? = some (.cells #[.int .i64 0, .int .i64 9, .int .i64 0, .int .i64 9, .int .i64 256, .int .i64 0] 30 (0, 0)) → Calls Try.prog 16 #[.agg #[.int .i64 1, .slice (some ⟨B, 0, none⟩) 2 2]] W fun e w' => e = .returned (.bool false) ∧ Kept (fun _ => True) W w') := fun W B q => right_any (cap := 2) (ep := 1) (ps := [⟨0, 9, 0⟩, ⟨9, 256, 0⟩]) (pv_two q) (by decide)
  have VM : Hid (∀ W, Kept (fun _ => True) v W → Pv W a3 P ∧ Pv W b3 P) := fun W q => ⟨(HBm.out.all q).view, (HBk2.out.all q).view⟩
  clear hr hl HBm HBk2 HBo2
  simp only [List.append_eq, List.cons_append, List.nil_append]
  go_region_held3 (fun W => Kept (fun _ => True) v W) (first | assumption | (repeat (first | assumption | exact Kept.refl _ _ | refine Kept.drew ?_ | refine Kept.alloc ?_ _))) (first
    | (go_at_call 15; have _ := s5; (with_reducible refine Calls.mono (CRN.out _) ?_); rintro e w6 ⟨rfl, k6⟩; have s6 : Kept (fun _ => True) v w6 := s5.trans k6; clear k6)
    | (go_at_call 15; (with_reducible refine Calls.mono (CRN.out _) ?_); rintro e w4 ⟨rfl, k4⟩; have s4 : Kept (fun _ => True) v w4 := (Kept.refl _ _).drew.trans k4; clear k4)
    | (go_at_call 14; have _ := s6; (with_reducible refine Calls.mono (CS.out _ _ _ (VM.out _ s6).2) ?_); rintro e w7 ⟨rfl, k7⟩; have s7 : Kept (fun _ => True) v w7 := s6.trans k7; clear k7)
    | (go_at_call 14; (with_reducible refine Calls.mono (CS.out _ _ _ (VM.out _ s4).1) ?_); rintro e w5 ⟨rfl, k5⟩; have s5 : Kept (fun _ => True) v w5 := s4.trans k5; clear k5)
    | (go_at_call 16; (with_reducible refine Calls.mono (CR1.out _ s7) ?_); rintro e w8 ⟨rfl, k8⟩; have s8 : Kept (fun _ => True) v w8 := s7.trans k8; clear k8)
    | (go_at_call 16; (with_reducible refine Calls.mono (CR2.out _ s8) ?_); rintro e w9 ⟨rfl, k9⟩; have s9 : Kept (fun _ => True) v w9 := s8.trans k9; clear k9)
    | (go_at_call 16; (with_reducible refine Calls.mono (CR3.out _ _ (heap_alloc_new w9 _)) ?_); rintro e w10 ⟨rfl, k10⟩; have s10 : Kept (fun _ => True) v w10 := (s9.alloc _).trans k10; clear k10)
    | (go_at_call 17; refine Calls.mono (known_any _) ?_; rintro e w13 ⟨rfl, k13⟩; have s13 : Kept (fun _ => True) v w13 := s10.trans k13; clear k13))
  all_goals
    go_wp2_with fail
    go_ret
    exact ⟨rfl, KZ.out.trans s13⟩

end Go.Proofs.Ytclgdgdponoomaa
