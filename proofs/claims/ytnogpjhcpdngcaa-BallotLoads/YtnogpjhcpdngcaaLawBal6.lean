/-
  BallotForgets.
-/
import Derived.Test.YtnogpjhcpdngcaaB6
import Derived.Test.YtnogpjhcpdngcaaSWithin
import Derived.Test.YtnogpjhcpdngcaaBAsks
namespace Go.Proofs.Ytnogpjhcpdngcaa
open Go.RowKit

/-- An Ask of the slice, in a world that was reached since. -/
theorem ask_at {w : World} {a : Option Addr} {na i : Nat} (h : IsAsks w a na) (hi : i < na) : ∃ b off, ∃ x : AskV, a = some ⟨b, off, none⟩ ∧ b < w.heap.size ∧ x.s.size ≤ 140737488355328 ∧ ∀ W, Kept (fun y => y < w.heap.size) w W → W.cell? ⟨b, off + i * 5, none⟩ = some (.int .i64 x.kind) ∧ W.cell? ⟨b, off + i * 5 + 1, none⟩ = some (.int .i64 x.slot) ∧ W.cell? ⟨b, off + i * 5 + 2, none⟩ = some (.int .i64 x.r) ∧ W.cell? ⟨b, off + i * 5 + 3, none⟩ = some (.int .i64 x.n) ∧ W.cell? ⟨b, off + i * 5 + 4, none⟩ = some (.string x.s) := by
  obtain ⟨b, off, x, ha, hb, c0, c1, c2, c3, c4, hs, -⟩ := h i hi
  exact ⟨b, off, x, ha, hb, hs, fun W k => ⟨cell_kept k c0 hb, cell_kept k c1 hb, cell_kept k c2 hb, cell_kept k c3 hb, cell_kept k c4 hb⟩⟩

set_option maxRecDepth 100000 in
set_option maxHeartbeats 2000000 in
theorem ballotForgets_any {w : World} {a : Option Addr} {na ca : Nat} (ha : IsAsks w a na) (below : Int) :
    Calls Try.prog 8 #[.slice a na ca, .int .i64 below] w fun e w' => e = .returned (.bool true) ∧ Kept (fun _ => True) w w' := by
  have HS : Hid (IsAsks w a na) := ha
  clear ha
  go_enter Try.func8, Try.ntmps8
  go_wp2_with fail
  refine Calls.mono new_any ?_
  rintro e w1 ⟨A, M, rfl, h1, k1, a1, m1⟩
  have H1 : Hid (AM w w1 A M 0 ⟨0, 0⟩ (fun _ => none)) := ⟨h1, k1, a1, m1⟩
  clear h1 k1 a1 m1
  go_wp2_with fail
  go_loopw [6] (fun t wr => ∃ (i n : Nat) (p : Bl) (f : Vs), i ≤ 30 ∧ n ≤ i ∧ t = .int .i64 i ∧ AM w wr A M n p f) (fun t _ => 30 - (intOf t).toNat)
  case atStart => exact ⟨0, 0, _, _, by omega, by omega, rfl, H1.out⟩
  case round =>
    obtain ⟨i, n, p, f, hi, hn, rfl, hm⟩ := hrel
    have HM : Hid (AM w wr A M n p f) := hm
    clear hm H1
    by_cases hlt : i < na ∧ i < 30
    · obtain ⟨b, off, x, rfl, hb, -, hx⟩ := ask_at HS.out hlt.1
      have g1 : (i : Int) < (na : Int) := by omega
      have g2 : (i : Int) < 30 := by omega
      have g0 : (0 : Int) ≤ (i : Int) := by omega
      have hx' : ∀ W, Kept (fun y => y < w.heap.size) wr W → W.cell? ⟨b, off + i * 5 + 1, none⟩ = some (.int .i64 x.slot) ∧ W.cell? ⟨b, off + i * 5 + 2, none⟩ = some (.int .i64 x.r) ∧ W.cell? ⟨b, off + i * 5 + 3, none⟩ = some (.int .i64 x.n) ∧ W.cell? ⟨b, off + i * 5 + 4, none⟩ = some (.string x.s) := fun W k => (hx W ((HM.out.kept.mono (fun _ _ _ => trivial)).trans k)).2
      have y1 := fun W k => (hx' W k).1
      have y2 := fun W k => (hx' W k).2.1
      have y3 := fun W k => (hx' W k).2.2.1
      have y4 := fun W k => (hx' W k).2.2.2
      clear hx hx'
      have kd : Kept (fun y => y < w.heap.size) wr wr.drew := (Kept.refl _ _).drew
      have Hd : Hid (AM w wr.drew A M n p f) := HM.out.ahead (Kept.refl _ _).drew
      go_wp2_with fail
      go_region_held (fun W => Kept (fun y => y < w.heap.size) wr W) (assumption) (first
        | (go_at_call 25; refine Calls.mono (within_any _ 20 (by decide)) ?_; rintro e _ ⟨⟨k, hk, rfl⟩, rfl⟩)
        | (go_at_call 10; refine Calls.mono (accept_any Hd.out.ac (by omega) ⟨x.r, x.n⟩ _ _ _ rfl) ?_; rintro e w2 ⟨rfl, h2, k2⟩; have H2 := Hd.out.step h2 k2; have kx : Kept (fun y => y < w.heap.size) wr w2 := kd.trans (k2.mono (fun y _ hy => by have := Hd.out.a0; have := Hd.out.m0; omega))))
      all_goals
        go_wp2_with fail
        go_roundw
        case rel => exact ⟨i + 1, n + 1, _, _, by omega, by omega, by go_num, H2⟩
        case measure => simp [intOf]; omega
    · have hex : ¬ (i : Int) < (na : Int) ∨ ((i : Int) < (na : Int) ∧ ¬ (i : Int) < 30) := by omega
      clear HS hlt
      rcases hex with hex | hex
      all_goals
        go_wp2_with fail
        refine Calls.mono (within_any _ 22 (by decide)) ?_
        rintro e _ ⟨⟨k, hk, rfl⟩, rfl⟩
        have e1 : Hid (votesFrom (forgot f k) 0 = votesFrom f k) := votesUp_forgot f (by omega)
        have e2 : Hid (votesFrom (forgot f k) k = votesFrom f k) := votesUp_forgot' f k
        have e3 : Hid ((votesFrom f k).length ≤ 1000000) := Nat.le_trans (votesUp_len _ _ _) (by omega)
        clear hk hex
        generalize ((k : Nat) : Int) = kk at *
        go_wp2_with fail
        refine Calls.mono (promised_any HM.out.ac) ?_
        rintro e w2 ⟨rfl, k2⟩
        have H2 : Hid (AM w w2 A M n p f) := HM.out.ahead k2
        clear k2 HM
        go_wp2_with fail
        have k3 : Kept (fun _ => True) w2 (w2.alloc (.cells #[.int .i64 p.r, .int .i64 p.n] 26)) := (Kept.refl _ _).alloc _
        have hP := heap_alloc_new w2 (.cells #[.int .i64 p.r, .int .i64 p.n] 26)
        have hAP : Hid (w2.heap.size ≠ A ∧ w2.heap.size ≠ M) := ⟨Ne.symm (Nat.ne_of_lt H2.out.ac.lt), Ne.symm (Nat.ne_of_lt H2.out.ac.mlt)⟩
        have H3 : Hid (AM w _ A M n p f) := H2.out.ahead k3
        obtain ⟨q0, q1⟩ := bcell hP
        clear hP k3 H2
        generalize w2.alloc (.cells #[.int .i64 p.r, .int .i64 p.n] 26) = w3 at *
        generalize w2.heap.size = P0 at *
        refine Calls.mono (votes_any H3.out.ac _) ?_
        rintro e w4 ⟨v, rfl, r4, k4, -⟩
        have H4 : Hid (AM w w4 A M n p f) := H3.out.ahead k4
        have R4 : Hid (VR w4 v (votesFrom f kk)) := r4
        have p0 := cell_kept k4 q0 trivial
        have p1 := cell_kept k4 q1 trivial
        clear k4 r4 H3 q0 q1
        go_wp2_with fail
        refine Calls.mono (forget_any H4.out.ac _) ?_
        rintro e w5 ⟨rfl, h5, k5⟩
        have H5 : Hid (AM w w5 A M n p (forgot f kk)) := H4.out.step h5 k5
        have R5 : Hid (VR w5 v (votesFrom f kk)) := R4.out.kept k5 (H4.out.vr R4.out)
        have q0 : ∀ W, Kept (fun _ => True) w5 W → W.cell? ⟨P0, 0, none⟩ = some (.int .i64 p.r) := fun W k => cell_kept k (cell_kept k5 p0 hAP.out) trivial
        have q1 : ∀ W, Kept (fun _ => True) w5 W → W.cell? ⟨P0, 1, none⟩ = some (.int .i64 p.n) := fun W k => cell_kept k (cell_kept k5 p1 hAP.out) trivial
        clear k5 h5 p0 p1 H4 R4
        have kd : Kept (fun _ => True) w5 w5.drew := (Kept.refl _ _).drew
        have c1 : ∀ W, Kept (fun _ => True) w5 W → Calls Try.prog 11 #[.pointer (some ⟨A, 0, none⟩), .int .i64 0] W (fun e w' => ∃ v, e = .returned v ∧ VR w' v (votesFrom f kk) ∧ Kept (fun _ => True) W w') := fun W k => Calls.mono (votes_any (H5.out.ahead k).ac 0) (by rintro e w' ⟨v, rfl, r, k', _⟩; exact ⟨v, rfl, by rw [← e1.out]; exact r, k'⟩)
        have c2 : ∀ W, Kept (fun _ => True) w5 W → Calls Try.prog 11 #[.pointer (some ⟨A, 0, none⟩), .int .i64 kk] W (fun e w' => ∃ v, e = .returned v ∧ VR w' v (votesFrom f kk) ∧ Kept (fun _ => True) W w') := fun W k => Calls.mono (votes_any (H5.out.ahead k).ac kk) (by rintro e w' ⟨v, rfl, r, k', _⟩; exact ⟨v, rfl, by rw [← e2.out]; exact r, k'⟩)
        go_wp2_with fail
        go_region_held (fun W => Kept (fun _ => True) w5 W) (assumption) (first
          | (go_at_call_of 11 (Value.int .i64 0); refine Calls.mono (c1 _ kd) ?_; rintro e w6 ⟨v6, rfl, r6, k6⟩; have k6' : Kept (fun _ => True) w5 w6 := kd.trans k6)
          | (go_at_call_of 21 v6; refine Calls.mono (keep_same r6 (R5.out.all k6') e3.out) ?_; rintro e w7 ⟨rfl, m7, rfl⟩; have k7' : Kept (fun _ => True) w5 (w6.drewN m7) := k6'.drewN _)
          | (go_at_call_of 11 (Value.int .i64 kk); refine Calls.mono (c2 _ k7') ?_; rintro e w8 ⟨v8, rfl, r8, k8⟩; have k8' : Kept (fun _ => True) w5 w8 := k7'.trans k8)
          | (go_at_call_of 21 v8; refine Calls.mono (keep_same r8 (R5.out.all k8') e3.out) ?_; rintro e w9 ⟨rfl, m9, rfl⟩; have k9' : Kept (fun _ => True) w5 (w8.drewN m9) := k8'.drewN _)
          | (go_at_call 15; refine Calls.mono (promised_any (H5.out.ahead k9').ac) ?_; rintro e w10 ⟨rfl, k10⟩; have k10' : Kept (fun _ => True) w5 w10 := k9'.trans k10)
          | (go_at_call 17; refine Calls.mono known_any ?_; rintro e w11 ⟨rfl, k11⟩; have k11' : Kept (fun _ => True) w5 w11 := k10'.trans k11))
        all_goals
          go_wp2_with fail
          go_ret
          exact ⟨rfl, H5.out.kept.trans k11'⟩

end Go.Proofs.Ytnogpjhcpdngcaa
