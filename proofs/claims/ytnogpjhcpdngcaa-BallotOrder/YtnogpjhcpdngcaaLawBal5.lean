/-
  BallotOrder.
-/
import Derived.Test.YtnogpjhcpdngcaaB5
namespace Go.Proofs.Ytnogpjhcpdngcaa
open Go.RowKit

/-- Three ballots in variables. -/
structure Three (w : World) (A B C : Nat) (ar an br bn cr cn : Int) : Prop where
  a0 : w.cell? ⟨A, 0, none⟩ = some (.int .i64 ar)
  a1 : w.cell? ⟨A, 1, none⟩ = some (.int .i64 an)
  b0 : w.cell? ⟨B, 0, none⟩ = some (.int .i64 br)
  b1 : w.cell? ⟨B, 1, none⟩ = some (.int .i64 bn)
  c0 : w.cell? ⟨C, 0, none⟩ = some (.int .i64 cr)
  c1 : w.cell? ⟨C, 1, none⟩ = some (.int .i64 cn)
theorem Three.kept {w w' : World} {A B C : Nat} {ar an br bn cr cn : Int} (h : Three w A B C ar an br bn cr cn) (k : Kept (fun _ => True) w w') : Three w' A B C ar an br bn cr cn :=
  ⟨cell_kept k h.a0 trivial, cell_kept k h.a1 trivial, cell_kept k h.b0 trivial, cell_kept k h.b1 trivial, cell_kept k h.c0 trivial, cell_kept k h.c1 trivial⟩

theorem three_made (w : World) (ar an br bn cr cn : Int) : Three (((w.alloc (.cells #[.int .i64 ar, .int .i64 an] 26)).alloc (.cells #[.int .i64 br, .int .i64 bn] 26)).alloc (.cells #[.int .i64 cr, .int .i64 cn] 26)) w.heap.size (w.heap.size + 1) (w.heap.size + 1 + 1) ar an br bn cr cn := by
  have h1 := heap_alloc_new w (.cells #[.int .i64 ar, .int .i64 an] 26)
  have s1 : (w.alloc (.cells #[.int .i64 ar, .int .i64 an] 26)).heap.size = w.heap.size + 1 := by simp
  generalize w.alloc (.cells #[.int .i64 ar, .int .i64 an] 26) = w1 at *
  have h2 := heap_alloc_new w1 (.cells #[.int .i64 br, .int .i64 bn] 26)
  have k2 : Kept (fun _ => True) w1 (w1.alloc (.cells #[.int .i64 br, .int .i64 bn] 26)) := (Kept.refl _ _).alloc _
  have s2 : (w1.alloc (.cells #[.int .i64 br, .int .i64 bn] 26)).heap.size = w1.heap.size + 1 := by simp
  generalize w1.alloc (.cells #[.int .i64 br, .int .i64 bn] 26) = w2 at *
  have h3 := heap_alloc_new w2 (.cells #[.int .i64 cr, .int .i64 cn] 26)
  have k3 : Kept (fun _ => True) w2 (w2.alloc (.cells #[.int .i64 cr, .int .i64 cn] 26)) := (Kept.refl _ _).alloc _
  generalize w2.alloc (.cells #[.int .i64 cr, .int .i64 cn] 26) = w3 at *
  rw [s1] at s2 h2
  rw [s2] at h3
  obtain ⟨x0, x1⟩ := bcell h1
  obtain ⟨y0, y1⟩ := bcell h2
  obtain ⟨z0, z1⟩ := bcell h3
  exact ⟨cell_kept k3 (cell_kept k2 x0 trivial) trivial, cell_kept k3 (cell_kept k2 x1 trivial) trivial, cell_kept k3 y0 trivial, cell_kept k3 y1 trivial, z0, z1⟩

set_option maxRecDepth 100000 in
set_option maxHeartbeats 1000000 in
theorem ballotOrder_any {w : World} (ar an br bn cr cn : Int) :
    Calls Try.prog 7 #[.agg #[.int .i64 ar, .int .i64 an], .agg #[.int .i64 br, .int .i64 bn], .agg #[.int .i64 cr, .int .i64 cn]] w fun e w' => e = .returned (.bool true) ∧ Kept (fun _ => True) w w' := by
  have haa : less ⟨ar, an⟩ ⟨ar, an⟩ = false := less_self _
  go_enter Try.func7, Try.ntmps7
  go_wp2_with fail
  refine Calls.mono (less_raw _ _ _ _) ?_
  rintro e w1 ⟨rfl, k1⟩
  rw [haa]
  have T1 : Hid (Three w1 w.heap.size (w.heap.size + 1) (w.heap.size + 1 + 1) ar an br bn cr cn) := (three_made w ar an br bn cr cn).kept k1
  have K1 : Hid (Kept (fun _ => True) w w1) := ((((Kept.refl _ _).alloc _).alloc _).alloc _).trans k1
  clear k1
  generalize w.heap.size + 1 + 1 = C at *
  generalize w.heap.size + 1 = B at *
  generalize w.heap.size = A at T1 ⊢
  have ⟨a0, a1, b0, b1, c0, c1⟩ := T1.out
  by_cases hr : ar = br
  · subst hr
    by_cases hq : an = bn
    · subst hq
      go_wp2_with fail
      refine Calls.mono (less_raw _ _ _ _) ?_
      rintro e w2 ⟨rfl, k2⟩
      rw [haa]
      have T2 : Hid (Three w2 A B C ar an ar an cr cn) := T1.out.kept k2
      have K2 : Hid (Kept (fun _ => True) w w2) := K1.out.trans k2
      clear k2 T1 K1
      have ⟨a0, a1, b0, b1, c0, c1⟩ := T2.out
      go_wp2_with fail
      refine Calls.mono (less_raw _ _ _ _) ?_
      rintro e w3 ⟨rfl, k3⟩
      rw [haa]
      have T3 : Hid (Three w3 A B C ar an ar an cr cn) := T2.out.kept k3
      have K3 : Hid (Kept (fun _ => True) w w3) := K2.out.trans k3
      clear k3 T2 K2
      have ⟨a0, a1, b0, b1, c0, c1⟩ := T3.out
      go_wp2_with fail
      refine Calls.mono known_any ?_
      rintro e w9 ⟨rfl, k9⟩
      go_wp2
      go_ret
      exact ⟨rfl, K3.out.trans k9⟩
    · cases hab : less ⟨ar, an⟩ ⟨ar, bn⟩
      · have hba : less ⟨ar, bn⟩ ⟨ar, an⟩ = true := by
          rw [less_not] at hab
          rw [less_iff]
          simp at hab ⊢
          omega
        go_wp2_with fail
        refine Calls.mono (less_raw _ _ _ _) ?_
        rintro e w2 ⟨rfl, k2⟩
        rw [hab]
        have T2 : Hid (Three w2 A B C ar an ar bn cr cn) := T1.out.kept k2
        have K2 : Hid (Kept (fun _ => True) w w2) := K1.out.trans k2
        clear k2 T1 K1
        have ⟨a0, a1, b0, b1, c0, c1⟩ := T2.out
        go_wp2_with fail
        refine Calls.mono (less_raw _ _ _ _) ?_
        rintro e w3 ⟨rfl, k3⟩
        rw [hab]
        have T3 : Hid (Three w3 A B C ar an ar bn cr cn) := T2.out.kept k3
        have K3 : Hid (Kept (fun _ => True) w w3) := K2.out.trans k3
        clear k3 T2 K2
        have ⟨a0, a1, b0, b1, c0, c1⟩ := T3.out
        go_wp2_with fail
        refine Calls.mono (less_raw _ _ _ _) ?_
        rintro e w4 ⟨rfl, k4⟩
        rw [hba]
        have T4 : Hid (Three w4 A B C ar an ar bn cr cn) := T3.out.kept k4
        have K4 : Hid (Kept (fun _ => True) w w4) := K3.out.trans k4
        clear k4 T3 K3
        have ⟨a0, a1, b0, b1, c0, c1⟩ := T4.out
        go_wp2_with fail
        refine Calls.mono (less_raw _ _ _ _) ?_
        rintro e w5 ⟨rfl, k5⟩
        rw [hab]
        have T5 : Hid (Three w5 A B C ar an ar bn cr cn) := T4.out.kept k5
        have K5 : Hid (Kept (fun _ => True) w w5) := K4.out.trans k5
        clear k5 T4 K4
        have ⟨a0, a1, b0, b1, c0, c1⟩ := T5.out
        go_wp2_with fail
        refine Calls.mono known_any ?_
        rintro e w9 ⟨rfl, k9⟩
        go_wp2
        go_ret
        exact ⟨rfl, K5.out.trans k9⟩
      · have hba := less_asym hab
        cases hbc : less ⟨ar, bn⟩ ⟨cr, cn⟩
        · go_wp2_with fail
          refine Calls.mono (less_raw _ _ _ _) ?_
          rintro e w2 ⟨rfl, k2⟩
          rw [hab]
          have T2 : Hid (Three w2 A B C ar an ar bn cr cn) := T1.out.kept k2
          have K2 : Hid (Kept (fun _ => True) w w2) := K1.out.trans k2
          clear k2 T1 K1
          have ⟨a0, a1, b0, b1, c0, c1⟩ := T2.out
          go_wp2_with fail
          refine Calls.mono (less_raw _ _ _ _) ?_
          rintro e w3 ⟨rfl, k3⟩
          rw [hba]
          have T3 : Hid (Three w3 A B C ar an ar bn cr cn) := T2.out.kept k3
          have K3 : Hid (Kept (fun _ => True) w w3) := K2.out.trans k3
          clear k3 T2 K2
          have ⟨a0, a1, b0, b1, c0, c1⟩ := T3.out
          go_wp2_with fail
          refine Calls.mono (less_raw _ _ _ _) ?_
          rintro e w4 ⟨rfl, k4⟩
          rw [hab]
          have T4 : Hid (Three w4 A B C ar an ar bn cr cn) := T3.out.kept k4
          have K4 : Hid (Kept (fun _ => True) w w4) := K3.out.trans k4
          clear k4 T3 K3
          have ⟨a0, a1, b0, b1, c0, c1⟩ := T4.out
          go_wp2_with fail
          refine Calls.mono (less_raw _ _ _ _) ?_
          rintro e w5 ⟨rfl, k5⟩
          rw [hab]
          have T5 : Hid (Three w5 A B C ar an ar bn cr cn) := T4.out.kept k5
          have K5 : Hid (Kept (fun _ => True) w w5) := K4.out.trans k5
          clear k5 T4 K4
          have ⟨a0, a1, b0, b1, c0, c1⟩ := T5.out
          go_wp2_with fail
          refine Calls.mono (less_raw _ _ _ _) ?_
          rintro e w6 ⟨rfl, k6⟩
          rw [hbc]
          have T6 : Hid (Three w6 A B C ar an ar bn cr cn) := T5.out.kept k6
          have K6 : Hid (Kept (fun _ => True) w w6) := K5.out.trans k6
          clear k6 T5 K5
          have ⟨a0, a1, b0, b1, c0, c1⟩ := T6.out
          go_wp2_with fail
          refine Calls.mono known_any ?_
          rintro e w9 ⟨rfl, k9⟩
          go_wp2
          go_ret
          exact ⟨rfl, K6.out.trans k9⟩
        · have hac := less_trans hab hbc
          go_wp2_with fail
          refine Calls.mono (less_raw _ _ _ _) ?_
          rintro e w2 ⟨rfl, k2⟩
          rw [hab]
          have T2 : Hid (Three w2 A B C ar an ar bn cr cn) := T1.out.kept k2
          have K2 : Hid (Kept (fun _ => True) w w2) := K1.out.trans k2
          clear k2 T1 K1
          have ⟨a0, a1, b0, b1, c0, c1⟩ := T2.out
          go_wp2_with fail
          refine Calls.mono (less_raw _ _ _ _) ?_
          rintro e w3 ⟨rfl, k3⟩
          rw [hba]
          have T3 : Hid (Three w3 A B C ar an ar bn cr cn) := T2.out.kept k3
          have K3 : Hid (Kept (fun _ => True) w w3) := K2.out.trans k3
          clear k3 T2 K2
          have ⟨a0, a1, b0, b1, c0, c1⟩ := T3.out
          go_wp2_with fail
          refine Calls.mono (less_raw _ _ _ _) ?_
          rintro e w4 ⟨rfl, k4⟩
          rw [hab]
          have T4 : Hid (Three w4 A B C ar an ar bn cr cn) := T3.out.kept k4
          have K4 : Hid (Kept (fun _ => True) w w4) := K3.out.trans k4
          clear k4 T3 K3
          have ⟨a0, a1, b0, b1, c0, c1⟩ := T4.out
          go_wp2_with fail
          refine Calls.mono (less_raw _ _ _ _) ?_
          rintro e w5 ⟨rfl, k5⟩
          rw [hab]
          have T5 : Hid (Three w5 A B C ar an ar bn cr cn) := T4.out.kept k5
          have K5 : Hid (Kept (fun _ => True) w w5) := K4.out.trans k5
          clear k5 T4 K4
          have ⟨a0, a1, b0, b1, c0, c1⟩ := T5.out
          go_wp2_with fail
          refine Calls.mono (less_raw _ _ _ _) ?_
          rintro e w6 ⟨rfl, k6⟩
          rw [hbc]
          have T6 : Hid (Three w6 A B C ar an ar bn cr cn) := T5.out.kept k6
          have K6 : Hid (Kept (fun _ => True) w w6) := K5.out.trans k6
          clear k6 T5 K5
          have ⟨a0, a1, b0, b1, c0, c1⟩ := T6.out
          go_wp2_with fail
          refine Calls.mono (less_raw _ _ _ _) ?_
          rintro e w7 ⟨rfl, k7⟩
          rw [hac]
          have T7 : Hid (Three w7 A B C ar an ar bn cr cn) := T6.out.kept k7
          have K7 : Hid (Kept (fun _ => True) w w7) := K6.out.trans k7
          clear k7 T6 K6
          have ⟨a0, a1, b0, b1, c0, c1⟩ := T7.out
          go_wp2_with fail
          refine Calls.mono known_any ?_
          rintro e w9 ⟨rfl, k9⟩
          go_wp2
          go_ret
          exact ⟨rfl, K7.out.trans k9⟩
  · cases hab : less ⟨ar, an⟩ ⟨br, bn⟩
    · have hba : less ⟨br, bn⟩ ⟨ar, an⟩ = true := by
        rw [less_not] at hab
        rw [less_iff]
        simp at hab ⊢
        omega
      go_wp2_with fail
      refine Calls.mono (less_raw _ _ _ _) ?_
      rintro e w2 ⟨rfl, k2⟩
      rw [hab]
      have T2 : Hid (Three w2 A B C ar an br bn cr cn) := T1.out.kept k2
      have K2 : Hid (Kept (fun _ => True) w w2) := K1.out.trans k2
      clear k2 T1 K1
      have ⟨a0, a1, b0, b1, c0, c1⟩ := T2.out
      go_wp2_with fail
      refine Calls.mono (less_raw _ _ _ _) ?_
      rintro e w3 ⟨rfl, k3⟩
      rw [hab]
      have T3 : Hid (Three w3 A B C ar an br bn cr cn) := T2.out.kept k3
      have K3 : Hid (Kept (fun _ => True) w w3) := K2.out.trans k3
      clear k3 T2 K2
      have ⟨a0, a1, b0, b1, c0, c1⟩ := T3.out
      go_wp2_with fail
      refine Calls.mono (less_raw _ _ _ _) ?_
      rintro e w4 ⟨rfl, k4⟩
      rw [hba]
      have T4 : Hid (Three w4 A B C ar an br bn cr cn) := T3.out.kept k4
      have K4 : Hid (Kept (fun _ => True) w w4) := K3.out.trans k4
      clear k4 T3 K3
      have ⟨a0, a1, b0, b1, c0, c1⟩ := T4.out
      go_wp2_with fail
      refine Calls.mono (less_raw _ _ _ _) ?_
      rintro e w5 ⟨rfl, k5⟩
      rw [hab]
      have T5 : Hid (Three w5 A B C ar an br bn cr cn) := T4.out.kept k5
      have K5 : Hid (Kept (fun _ => True) w w5) := K4.out.trans k5
      clear k5 T4 K4
      have ⟨a0, a1, b0, b1, c0, c1⟩ := T5.out
      go_wp2_with fail
      refine Calls.mono known_any ?_
      rintro e w9 ⟨rfl, k9⟩
      go_wp2
      go_ret
      exact ⟨rfl, K5.out.trans k9⟩
    · have hba := less_asym hab
      cases hbc : less ⟨br, bn⟩ ⟨cr, cn⟩
      · go_wp2_with fail
        refine Calls.mono (less_raw _ _ _ _) ?_
        rintro e w2 ⟨rfl, k2⟩
        rw [hab]
        have T2 : Hid (Three w2 A B C ar an br bn cr cn) := T1.out.kept k2
        have K2 : Hid (Kept (fun _ => True) w w2) := K1.out.trans k2
        clear k2 T1 K1
        have ⟨a0, a1, b0, b1, c0, c1⟩ := T2.out
        go_wp2_with fail
        refine Calls.mono (less_raw _ _ _ _) ?_
        rintro e w3 ⟨rfl, k3⟩
        rw [hba]
        have T3 : Hid (Three w3 A B C ar an br bn cr cn) := T2.out.kept k3
        have K3 : Hid (Kept (fun _ => True) w w3) := K2.out.trans k3
        clear k3 T2 K2
        have ⟨a0, a1, b0, b1, c0, c1⟩ := T3.out
        go_wp2_with fail
        refine Calls.mono (less_raw _ _ _ _) ?_
        rintro e w4 ⟨rfl, k4⟩
        rw [hab]
        have T4 : Hid (Three w4 A B C ar an br bn cr cn) := T3.out.kept k4
        have K4 : Hid (Kept (fun _ => True) w w4) := K3.out.trans k4
        clear k4 T3 K3
        have ⟨a0, a1, b0, b1, c0, c1⟩ := T4.out
        go_wp2_with fail
        refine Calls.mono (less_raw _ _ _ _) ?_
        rintro e w5 ⟨rfl, k5⟩
        rw [hab]
        have T5 : Hid (Three w5 A B C ar an br bn cr cn) := T4.out.kept k5
        have K5 : Hid (Kept (fun _ => True) w w5) := K4.out.trans k5
        clear k5 T4 K4
        have ⟨a0, a1, b0, b1, c0, c1⟩ := T5.out
        go_wp2_with fail
        refine Calls.mono (less_raw _ _ _ _) ?_
        rintro e w6 ⟨rfl, k6⟩
        rw [hbc]
        have T6 : Hid (Three w6 A B C ar an br bn cr cn) := T5.out.kept k6
        have K6 : Hid (Kept (fun _ => True) w w6) := K5.out.trans k6
        clear k6 T5 K5
        have ⟨a0, a1, b0, b1, c0, c1⟩ := T6.out
        go_wp2_with fail
        refine Calls.mono known_any ?_
        rintro e w9 ⟨rfl, k9⟩
        go_wp2
        go_ret
        exact ⟨rfl, K6.out.trans k9⟩
      · have hac := less_trans hab hbc
        go_wp2_with fail
        refine Calls.mono (less_raw _ _ _ _) ?_
        rintro e w2 ⟨rfl, k2⟩
        rw [hab]
        have T2 : Hid (Three w2 A B C ar an br bn cr cn) := T1.out.kept k2
        have K2 : Hid (Kept (fun _ => True) w w2) := K1.out.trans k2
        clear k2 T1 K1
        have ⟨a0, a1, b0, b1, c0, c1⟩ := T2.out
        go_wp2_with fail
        refine Calls.mono (less_raw _ _ _ _) ?_
        rintro e w3 ⟨rfl, k3⟩
        rw [hba]
        have T3 : Hid (Three w3 A B C ar an br bn cr cn) := T2.out.kept k3
        have K3 : Hid (Kept (fun _ => True) w w3) := K2.out.trans k3
        clear k3 T2 K2
        have ⟨a0, a1, b0, b1, c0, c1⟩ := T3.out
        go_wp2_with fail
        refine Calls.mono (less_raw _ _ _ _) ?_
        rintro e w4 ⟨rfl, k4⟩
        rw [hab]
        have T4 : Hid (Three w4 A B C ar an br bn cr cn) := T3.out.kept k4
        have K4 : Hid (Kept (fun _ => True) w w4) := K3.out.trans k4
        clear k4 T3 K3
        have ⟨a0, a1, b0, b1, c0, c1⟩ := T4.out
        go_wp2_with fail
        refine Calls.mono (less_raw _ _ _ _) ?_
        rintro e w5 ⟨rfl, k5⟩
        rw [hab]
        have T5 : Hid (Three w5 A B C ar an br bn cr cn) := T4.out.kept k5
        have K5 : Hid (Kept (fun _ => True) w w5) := K4.out.trans k5
        clear k5 T4 K4
        have ⟨a0, a1, b0, b1, c0, c1⟩ := T5.out
        go_wp2_with fail
        refine Calls.mono (less_raw _ _ _ _) ?_
        rintro e w6 ⟨rfl, k6⟩
        rw [hbc]
        have T6 : Hid (Three w6 A B C ar an br bn cr cn) := T5.out.kept k6
        have K6 : Hid (Kept (fun _ => True) w w6) := K5.out.trans k6
        clear k6 T5 K5
        have ⟨a0, a1, b0, b1, c0, c1⟩ := T6.out
        go_wp2_with fail
        refine Calls.mono (less_raw _ _ _ _) ?_
        rintro e w7 ⟨rfl, k7⟩
        rw [hac]
        have T7 : Hid (Three w7 A B C ar an br bn cr cn) := T6.out.kept k7
        have K7 : Hid (Kept (fun _ => True) w w7) := K6.out.trans k7
        clear k7 T6 K6
        have ⟨a0, a1, b0, b1, c0, c1⟩ := T7.out
        go_wp2_with fail
        refine Calls.mono known_any ?_
        rintro e w9 ⟨rfl, k9⟩
        go_wp2
        go_ret
        exact ⟨rfl, K7.out.trans k9⟩

end Go.Proofs.Ytnogpjhcpdngcaa
