/-
  The law's known.
-/
import Derived.Test.YtclgdgdponoomaaMR3
namespace Go.Proofs.Ytclgdgdponoomaa
open Go.RowKit

theorem pcs_const {f : Nat → Int} {g : Int} (h : ∀ i, i < 256 → f i = g) : pcs f 256 = [⟨0, 256, g⟩] := by
  have := pcs_jn f 0 g 256 (by omega) (fun i _ hi => h i hi)
  rw [← this, pcs, jn_nil _ (show (0 : Int) < 256 by decide)]
  rfl
theorem upd_all (f : Nat → Int) (g : Int) : ∀ i, i < 256 → upd f 0 256 g i = g := fun i hi => by
  unfold upd
  rw [if_pos ⟨by omega, by omega⟩]
theorem newP_told (n : Nat) (h1 : 1 ≤ n) (h3 : n ≤ 3) : newP n = pcs (ownH (newP n)) 256 := rgt_told (rgt_iff.1 (newP_rgt n h1 h3)).2.2

set_option maxRecDepth 100000 in
set_option maxHeartbeats 2000000 in
theorem known_any (w : World) : Calls Try.prog 17 #[] w fun e w' => e = .returned (.bool true) ∧ Kept (fun _ => True) w w' := by
  have c1 := new_any (w := w) 2 (by decide) (by decide)
  have hr := newP_rgt 2 (by decide) (by decide)
  have ht := newP_told 2 (by decide) (by decide)
  have cn := fun W => rnew_any (w := W) 2 (by decide) (by decide)
  have cm := fun W ao cap (h : Pv W ao (newP 2)) => move_any (cap := cap) h 0 256 0 hr (by decide) (by decide) (by decide) (by decide) (by decide)
  rw [pcs_const (upd_all _ 0)] at cm
  have cs := fun W ao cap (h : Pv W ao (newP 2)) => same_any (ep := 1) (cap := cap) h rfl ht
  simp only [Int.cast_ofNat_Int] at c1 cn
  simp only [List.length_singleton, Int.reduceAdd] at cm
  generalize newP 2 = P at *
  generalize mcs 1 (ownH P) = M at *
  clear hr ht
  go_enter Try.func17, Try.ntmps17
  go_wp2_with fail
  refine Calls.mono c1 ?_
  rintro e w1 ⟨a1, p1, rfl, ho1, k1⟩
  have hV1 := ho1.view
  have kA : Kept (fun _ => True) w1 (w1.alloc (.cells #[.int .i64 1, .slice a1 P.length p1] 24)) := (Kept.refl _ _).alloc _
  have hA := heap_alloc_new w1 (.cells #[.int .i64 1, .slice a1 P.length p1] 24)
  have cm1 := cm _ _ p1 (hV1.all kA)
  have HV1 : Hid (Pv _ _ _) := hV1.all kA
  have K1 : Hid (Kept (fun _ => True) w (w1.alloc (.cells #[.int .i64 1, .slice a1 P.length p1] 24))) := k1.trans kA
  have HA : Hid _ := hA
  clear c1 ho1 k1 hV1 kA hA cm
  go_wp2_with fail
  refine Calls.mono cm1 ?_
  rintro e w2 ⟨a2, p2, rfl, ho2, k2⟩
  clear cm1 ho2
  have kB : Kept (fun _ => True) w2 (w2.alloc (.cells #[.int .i64 2, .slice a2 1 p2] 24)) := (Kept.refl _ _).alloc _
  have hB := heap_alloc_new w2 (.cells #[.int .i64 2, .slice a2 1 p2] 24)
  have hA2 := ((k2.trans kB).block _ (lt_of_block HA.out) trivial).trans HA.out
  have HV2 : Hid (Pv _ a1 P) := HV1.out.all (k2.trans kB)
  have K2 : Hid (Kept (fun _ => True) w _) := K1.out.trans (k2.trans kB)
  obtain ⟨x0, x1⟩ := mtwo_cell hA2
  obtain ⟨y0, y1⟩ := mtwo_cell hB
  clear HV1 K1 HA k2 kB hA2 hB
  go_wp2_with fail
  generalize w2.alloc (.cells #[.int .i64 2, .slice a2 1 p2] 24) = w3 at *
  have X0 : ∀ W, Kept (fun _ => True) w3 W → W.cell? ⟨w1.heap.size, 0, none⟩ = some (.int .i64 1) := fun W q => (kept_cell q (World.block_lt_of_cell? _ _ x0) trivial).trans x0
  have X1 : ∀ W, Kept (fun _ => True) w3 W → W.cell? ⟨w1.heap.size, 1, none⟩ = some (.slice a1 P.length p1) := fun W q => (kept_cell q (World.block_lt_of_cell? _ _ x0) trivial).trans x1
  have Y0 : ∀ W, Kept (fun _ => True) w3 W → W.cell? ⟨w2.heap.size, 0, none⟩ = some (.int .i64 2) := fun W q => (kept_cell q (World.block_lt_of_cell? _ _ y0) trivial).trans y0
  have Y1 : ∀ W, Kept (fun _ => True) w3 W → W.cell? ⟨w2.heap.size, 1, none⟩ = some (.slice a2 1 p2) := fun W q => (kept_cell q (World.block_lt_of_cell? _ _ y0) trivial).trans y1
  have CS : Hid (∀ W, Kept (fun _ => True) w3 W → Calls Try.prog 14 #[.agg #[.int .i64 1, .slice a1 P.length p1], .agg M.toArray] W fun e w' => e = .returned (.bool true) ∧ Kept (fun _ => True) W w') := fun W q => cs W a1 p1 (HV2.out.all q)
  have CN : Hid (∀ W, Calls Try.prog 15 #[.int .i64 2] W fun e w' => e = .returned (.agg M.toArray) ∧ Kept (fun _ => True) W w') := cn
  clear x0 x1 y0 y1 cs cn HV2
  go_region_held3 (fun W => Kept (fun _ => True) w3 W) (first | assumption | (repeat (first | exact Kept.refl _ _ | assumption | refine Kept.drew ?_))) (first
    | (go_at_call 15; with_reducible refine Calls.mono (CN.out _) ?_; rintro e w4 ⟨rfl, k4⟩; have s4 : Kept (fun _ => True) w3 w4 := (Kept.refl _ _).drew.trans k4; clear k4)
    | (go_at_call 14; with_reducible refine Calls.mono (CS.out _ s4) ?_; rintro e w5 ⟨rfl, k5⟩; have s5 : Kept (fun _ => True) w3 w5 := s4.trans k5; clear k5))
  all_goals
    go_wp2_with fail
    go_ret
    exact ⟨rfl, K2.out.trans s5⟩

end Go.Proofs.Ytclgdgdponoomaa
