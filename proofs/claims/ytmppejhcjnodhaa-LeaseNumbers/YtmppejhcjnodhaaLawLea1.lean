/-
  LeaseNumbers: chapter 11's runs.
-/
import Derived.Test.YtmppejhcjnodhaaG6
namespace Go.Proofs.Ytmppejhcjnodhaa
open Go.RowKit

set_option maxRecDepth 100000 in
set_option maxHeartbeats 4000000 in
theorem leaseNumbers_any {w : World} : Calls Try.prog 3 #[] w fun e w' => e = .returned (.bool true) ∧ Kept (fun _ => True) w w' := by
  have f1 : Fr [(5, 70)] 3 := by unfold Fr AllTm Fairly Goes; decide +kernel
  have f2 : Fr [(0, 0), (1000, 1100)] 100 := by unfold Fr AllTm Fairly Goes; decide +kernel
  have f3 : ¬ Fr [(0, 0), (1000, 1101)] 100 := by unfold Fr AllTm Fairly Goes; decide +kernel
  have f4 : ¬ Fr [(4, 0), (4, 1)] 500 := by unfold Fr AllTm Fairly Goes; decide +kernel
  have F1 := fun (W : World) (b : Nat) (h : W.heap[b]? = some (.cells #[.int .i64 5, .int .i64 70] 35 (0, 0))) => fair_to (w := W) (n := 1) (cap := 1) [(5, 70)] rfl (rd_one h) (by simp) (by omega) 3 true (true_tells f1)
  have F2 := fun (W : World) (b : Nat) (h : W.heap[b]? = some (.cells #[.int .i64 0, .int .i64 0, .int .i64 1000, .int .i64 1100] 35 (0, 0))) => fair_to (w := W) (n := 2) (cap := 2) [(0, 0), (1000, 1100)] rfl (rd_two h) (by simp) (by omega) 100 true (true_tells f2)
  have F3 := fun (W : World) (b : Nat) (h : W.heap[b]? = some (.cells #[.int .i64 0, .int .i64 0, .int .i64 1000, .int .i64 1101] 35 (0, 0))) => fair_to (w := W) (n := 2) (cap := 2) [(0, 0), (1000, 1101)] rfl (rd_two h) (by simp) (by omega) 100 false (false_tells f3)
  have F4 := fun (W : World) (b : Nat) (h : W.heap[b]? = some (.cells #[.int .i64 4, .int .i64 0, .int .i64 4, .int .i64 1] 35 (0, 0))) => fair_to (w := W) (n := 2) (cap := 2) [(4, 0), (4, 1)] rfl (rd_two h) (by simp) (by omega) 500 false (false_tells f4)
  clear f1 f2 f3 f4
  go_enter Try.func3, Try.ntmps3
  dsimp only [List.append]
  go_wp2_with fail
  refine (new_bad 501 (by decide)).mono ?_
  rintro e w ⟨rfl, rfl⟩
  go_wp2_with fail
  refine (new_bad (-1) (by decide)).mono ?_
  rintro e w ⟨rfl, rfl⟩
  go_wp2_with fail
  refine (hold_no (-1) 5 0 (by decide) _).mono ?_
  rintro e w ⟨rfl, rfl⟩
  go_wp2_with fail
  refine (hold_no 1 1073741825 0 (by decide) _).mono ?_
  rintro e w ⟨rfl, rfl⟩
  go_wp2_with fail
  refine (bar_yes 1073741824 1073741824 (by decide) (by decide) _).mono ?_
  rintro e w ⟨rfl, rfl⟩
  go_wp2_with fail
  refine (new_ok 0 (by decide)).mono ?_
  rintro e w1 ⟨rfl, h1, k1⟩
  have g1 : Hid (GM w w1 w.heap.size Ga.none) := ⟨h1, k1, Nat.le_refl _⟩
  clear h1 k1
  generalize w.heap.size = B at *
  have c := until_any g1.out.now
  go_wp2_with fail
  refine c.mono ?_
  rintro e w1 ⟨rfl, rfl⟩
  clear c
  have c := ask_yes g1.out.now 2 10 5 (by decide)
  go_wp2_with fail
  refine c.mono ?_
  rintro e w2 ⟨rfl, s2⟩
  have g2 : Hid (GM w w2 B ⟨1, 2, 15⟩) := g1.out.step s2
  clear c s2 g1
  have c := ask_yes g2.out.now 2 11 2 (by decide)
  go_wp2_with fail
  refine c.mono ?_
  rintro e w3 ⟨rfl, s3⟩
  have g3 : Hid (GM w w3 B ⟨1, 2, 15⟩) := g2.out.step s3
  clear c s3 g2
  have c := until_any g3.out.now
  go_wp2_with fail
  refine c.mono ?_
  rintro e w3 ⟨rfl, rfl⟩
  clear c
  have c := barred_any g3.out.now 2 12
  rw [show decide (Ga.bars ⟨1, 2, 15⟩ 2 12) = false by decide] at c
  go_wp2_with fail
  refine c.mono ?_
  rintro e w3 ⟨rfl, rfl⟩
  clear c
  have c := barred_any g3.out.now 0 14
  rw [show decide (Ga.bars ⟨1, 2, 15⟩ 0 14) = true by decide] at c
  go_wp2_with fail
  refine c.mono ?_
  rintro e w3 ⟨rfl, rfl⟩
  clear c
  have c := lost_yes g3.out.now 13 4 (by decide)
  go_wp2_with fail
  refine c.mono ?_
  rintro e w4 ⟨rfl, s4⟩
  have g4 : Hid (GM w w4 B ⟨2, 0, 17⟩) := g3.out.step s4
  clear c s4 g3
  have c := barred_any g4.out.now 2 16
  rw [show decide (Ga.bars ⟨2, 0, 17⟩ 2 16) = true by decide] at c
  go_wp2_with fail
  refine c.mono ?_
  rintro e w4 ⟨rfl, rfl⟩
  clear c
  have c := ask_yes g4.out.now 2 17 1 (by decide)
  go_wp2_with fail
  refine c.mono ?_
  rintro e w5 ⟨rfl, s5⟩
  have g5 : Hid (GM w w5 B ⟨1, 2, 18⟩) := g4.out.step s5
  clear c s5 g4
  have c := ask_no g5.out.now (-1) 90 1 (by decide)
  go_wp2_with fail
  refine c.mono ?_
  rintro e w5 ⟨rfl, rfl⟩
  clear c
  have K5 : Hid (Kept (fun _ => True) w w5) := g5.out.kept
  clear g5
  go_wp2_with fail
  refine (F1 _ _ (heap_alloc_new w5 _)).mono ?_
  rintro e w6 ⟨rfl, k6⟩
  have K6 : Hid (Kept (fun _ => True) w w6) := (K5.out.alloc _).trans k6
  clear K5 k6 F1
  go_wp2_with fail
  refine (F2 _ _ (heap_alloc_new w6 _)).mono ?_
  rintro e w7 ⟨rfl, k7⟩
  have K7 : Hid (Kept (fun _ => True) w w7) := (K6.out.alloc _).trans k7
  clear K6 k7 F2
  go_wp2_with fail
  refine (F3 _ _ (heap_alloc_new w7 _)).mono ?_
  rintro e w8 ⟨rfl, k8⟩
  have K8 : Hid (Kept (fun _ => True) w w8) := (K7.out.alloc _).trans k8
  clear K7 k8 F3
  go_wp2_with fail
  refine (F4 _ _ (heap_alloc_new w8 _)).mono ?_
  rintro e w9 ⟨rfl, k9⟩
  have K9 : Hid (Kept (fun _ => True) w w9) := (K8.out.alloc _).trans k9
  clear K8 k9 F4
  go_wp2_with fail
  refine (runs_any _).mono ?_
  rintro e w10 ⟨rfl, k10⟩
  go_wp2
  go_ret
  exact ⟨rfl, K9.out.trans k10⟩

end Go.Proofs.Ytmppejhcjnodhaa
