/-
  Texts of the proofs, 40 of 52.
-/
import Derived.Test.YtmcaoimgmgjjiaaWAM
import Derived.Test.YtmcaoimgmgjjiaaWE
namespace Go.Proofs.Ytmcaoimgmgjjiaa
open Go.RowKit Go.Maps Go.Sort

def hit6 (x y : Ur) : Bool := decide (y.k = 2) && decide (y.tx = x.tx)

set_option maxRecDepth 100000 in
set_option maxHeartbeats 4000000 in
theorem wrong6_any {w : World} {v0 : Value} {ak : Option Addr} {ck : Nat} {xs : List Rk} (h : Rkv w ak xs) (i q : Nat) (hi : i < xs.length) (hq : q < xs[i].us.length) (hqm : q ≤ 4096) :
    Calls Try.prog 69 #[v0, .slice ak xs.length ck, .int .i64 6, .int .i64 i, .int .i64 q] w fun e w' => e = .returned (.bool (!((xs[i].us.take q).any fun y => hit6 (xs[i].us[q]).1 y.1) && decide ((xs[i].us[q]).1.k = 3))) ∧ Kept (fun _ => True) w w' := by
  obtain ⟨b, off, rfl, _, cR⟩ := h.two i hi
  have hvu := h.us _ (List.getElem_mem hi)
  have i0 : (0 : Int) ≤ (i : Int) := by omega
  have i1 : (i : Int) < (xs.length : Int) := by omega
  generalize xs[i] = x at *
  clear h hi
  generalize xs.length = N at *
  obtain ⟨b2, off2, hb2, q0, q1, q2, q3⟩ := rec_cells hvu q hq
  rw [hb2] at cR
  have HU : Hid (∀ k (hk : k < x.us.length), (∀ W, Kept (fun _ => True) w W → W.cell? ⟨b2, off2 + k * 4, none⟩ = some (.int .i64 (x.us[k].1.k : Nat))) ∧ (∀ W, Kept (fun _ => True) w W → W.cell? ⟨b2, off2 + k * 4 + 1, none⟩ = some (.string ⟨x.us[k].1.tx.toArray⟩)) ∧ (∀ W, Kept (fun _ => True) w W → W.cell? ⟨b2, off2 + k * 4 + 2, none⟩ = some (.slice x.us[k].2.1 x.us[k].1.gs.length x.us[k].2.2)) ∧ ∀ W, Kept (fun _ => True) w W → W.cell? ⟨b2, off2 + k * 4 + 3, none⟩ = some (.string ⟨x.us[k].1.bd.toArray⟩)) := fun k hk => by
    obtain ⟨b', off', e', r⟩ := rec_cells hvu k hk
    rw [hb2] at e'
    cases e'
    exact r
  have j0 : (0 : Int) ≤ (q : Int) := by omega
  have j1 : (q : Int) < (x.us.length : Int) := by omega
  have HQ : Hid (q < x.us.length) := hq
  generalize x.cR = cx at *
  generalize x.us[q] = u at *
  obtain ⟨⟨xk, xt, xg, xb⟩, xa, xc⟩ := u
  simp only at q0 q1 q2 q3 ⊢
  obtain ⟨w1, hw1⟩ : ∃ y, y = w.alloc (.cells #[.int .i64 (xk : Nat), .string ⟨xt.toArray⟩, .slice xa xg.length xc, .string ⟨xb.toArray⟩] 48) := ⟨_, rfl⟩
  have k1 : Kept (fun _ => True) w w1 := by rw [hw1]; exact (Kept.refl _ _).alloc _
  have F1 : Four4 w1 w.heap.size 48 (.int .i64 (xk : Nat)) (.string ⟨xt.toArray⟩) (.slice xa xg.length xc) (.string ⟨xb.toArray⟩) := by rw [hw1]; exact heap_alloc_new w _
  have HF1 : Hid (Four4 w1 w.heap.size 48 (.int .i64 (xk : Nat)) (.string ⟨xt.toArray⟩) (.slice xa xg.length xc) (.string ⟨xb.toArray⟩)) := F1
  have K1 : Hid (Kept (fun _ => True) w w1) := k1
  have cRA := cR w1 k1
  have c0 := cR w (Kept.refl _ _)
  have q00 := q0 w (Kept.refl _ _)
  have q10 := q1 w (Kept.refl _ _)
  have q20 := q2 w (Kept.refl _ _)
  have q30 := q3 w (Kept.refl _ _)
  have HCR : Hid (∀ W, Kept (fun _ => True) w W → W.cell? ⟨b, off + i * 2 + 1, none⟩ = some (.slice (some ⟨b2, off2, none⟩) x.us.length cx)) := cR
  clear k1 F1 cRA cR q0 q1 q2 q3 hb2 hq
  go_enter Try.func69, Try.ntmps69
  go_upto_region 2 with fail
  rw [← hw1]
  clear hw1 c0 q00 q10 q20 q30
  generalize w.heap.size = X at *
  go_wp2_with fail
  go_loopw [14] (fun t wr => ∃ k : Nat, k ≤ q ∧ t = .int .i64 k ∧ ((x.us.take k).any fun y => hit6 ⟨xk, xt, xg, xb⟩ y.1) = false ∧ Kept (fun _ => True) w1 wr) (fun t _ => q - (intOf t).toNat)
  case atStart => exact ⟨0, Nat.zero_le _, rfl, rfl, Kept.refl _ _⟩
  case round =>
    obtain ⟨k, hk, rfl, hno, hkr⟩ := hrel
    obtain ⟨wI, hwI⟩ : ∃ y, y = wr := ⟨_, rfl⟩
    rw [← hwI] at hkr ⊢
    clear hwI
    have HKr : Hid (Kept (fun _ => True) w1 wI) := hkr
    have hkk := K1.out.trans hkr
    by_cases hlt : k < q
    · have hk2 : k < x.us.length := by have := HQ.out; omega
      obtain ⟨p0, p1, p2, p3⟩ := HU.out k hk2
      have y0 : ∀ W, Kept (fun _ => True) wI W → W.cell? ⟨b2, off2 + k * 4, none⟩ = some (.int .i64 (x.us[k].1.k : Nat)) := fun W c => p0 W (hkk.trans c)
      have y1 : ∀ W, Kept (fun _ => True) wI W → W.cell? ⟨b2, off2 + k * 4 + 1, none⟩ = some (.string ⟨x.us[k].1.tx.toArray⟩) := fun W c => p1 W (hkk.trans c)
      have cI : ∀ W, Kept (fun _ => True) wI W → W.cell? ⟨b, off + i * 2 + 1, none⟩ = some (.slice (some ⟨b2, off2, none⟩) x.us.length cx) := fun W c => HCR.out W (hkk.trans c)
      have x0 : ∀ W, Kept (fun _ => True) wI W → W.cell? ⟨X, 0, none⟩ = some (.int .i64 (xk : Nat)) := fun W c => (HF1.out.kept (HKr.out.trans c) trivial).cell.1
      have x1 : ∀ W, Kept (fun _ => True) wI W → W.cell? ⟨X, 1, none⟩ = some (.string ⟨xt.toArray⟩) := fun W c => (HF1.out.kept (HKr.out.trans c) trivial).cell.2.1
      have HNo : Hid (∀ z, (x.us.take (k + 1)).any (fun y => hit6 ⟨xk, xt, xg, xb⟩ y.1) = z ↔ hit6 ⟨xk, xt, xg, xb⟩ x.us[k].1 = z) := fun z => by
        rw [List.take_succ_eq_append_getElem hk2, List.any_append, hno]
        simp
      have HY : Hid (hit6 ⟨xk, xt, xg, xb⟩ x.us[k].1 = true → ((x.us.take q).any fun y => hit6 ⟨xk, xt, xg, xb⟩ y.1) = true) := fun hh => List.any_eq_true.2 ⟨x.us[k], take_mem hk2 hlt, hh⟩
      have HI : Hid (k < q) := hlt
      have l0 : (0 : Int) ≤ (k : Int) := by omega
      have l1 : (k : Int) < (x.us.length : Int) := by omega
      have l2 : (k : Int) < (q : Int) := by omega
      have l3 : k < x.us.length := hk2
      generalize hy : x.us[k] = u at *
      clear hy
      obtain ⟨⟨yk, yt, yg, yb⟩, ya, yc⟩ := u
      simp only at y0 y1 HNo HY
      clear p0 p1 p2 p3 hno hkr hkk hk2 hk hlt
      by_cases hk2 : yk = 2
      · subst hk2
        by_cases ht : yt = xt
        · have HT : Hid (hit6 ⟨xk, xt, xg, xb⟩ ⟨2, yt, yg, yb⟩ = true) := by show _ = _; unfold hit6; simp [ht]
          rw [ht] at y1
          go_wp2_with fail
          refine Gz.begin (fun W => Kept (fun _ => True) wI W) (fun _ => false) (by kernel_rfl) ?_
          refine Gz.tk (i := 0) (oi := ⟨some 71, .move (.tmp 1), 71, _, _, none⟩) (v := ?_) rfl (by kernel_rfl) (fun _ _ _ h => h) (Or.inl ⟨by rfl, ?hy0⟩) (Kept.refl _ _).drew ?_
          case hy0 => (intro W hS; (try dsimp only at hS); go_simp; try with_reducible rfl)
          try simp only [Act.put, lyA, ly0, ly1]
          refine Gz.tk (i := 1) (oi := ⟨some 72, .move (.tmp 3), 3, _, _, none⟩) (v := ?_) rfl (by kernel_rfl) (fun _ _ _ h => h) (Or.inl ⟨by rfl, ?hy1⟩) (Kept.refl _ _).drew ?_
          case hy1 => (intro W hS; (try dsimp only at hS); go_simp; try with_reducible rfl)
          try simp only [Act.put, lyA, ly0, ly1]
          refine Gz.tk (i := 2) (oi := ⟨some 73, .indexAddr 71 (.tmp 71) (.tmp 72), 0, _, _, none⟩) (v := ?_) rfl (by kernel_rfl) (fun _ _ _ h => h) (Or.inl ⟨by rfl, ?hy2⟩) (Kept.refl _ _).drew ?_
          case hy2 => (intro W hS; (try dsimp only at hS); go_simp; try with_reducible rfl)
          try simp only [Act.put, lyA, ly0, ly1]
          refine Gz.tk (i := 3) (oi := ⟨some 74, .fieldAddr 77 (.tmp 73) 1, 0, _, _, none⟩) (v := ?_) rfl (by kernel_rfl) (fun _ _ _ h => h) (Or.inl ⟨by rfl, ?hy3⟩) (Kept.refl _ _).drew ?_
          case hy3 => (intro W hS; (try dsimp only at hS); go_simp; try with_reducible rfl)
          try simp only [Act.put, lyA, ly0, ly1]
          refine Gz.tk (i := 4) (oi := ⟨some 75, .load 75 (.tmp 74), 75, _, _, none⟩) (v := ?_) rfl (by kernel_rfl) (fun _ _ _ h => h) (Or.inl ⟨by rfl, ?hy4⟩) (Kept.refl _ _).drew ?_
          case hy4 => (intro W hS; (try dsimp only at hS); go_simp; try with_reducible rfl)
          try simp only [Act.put, lyA, ly0, ly1]
          refine Gz.tk (i := 5) (oi := ⟨some 76, .move (.tmp 14), 3, _, _, none⟩) (v := ?_) rfl (by kernel_rfl) (fun _ _ _ h => h) (Or.inl ⟨by rfl, ?hy5⟩) (Kept.refl _ _).drew ?_
          case hy5 => (intro W hS; (try dsimp only at hS); go_simp; try with_reducible rfl)
          try simp only [Act.put, lyA, ly0, ly1]
          refine Gz.tk (i := 6) (oi := ⟨some 77, .indexAddr 75 (.tmp 75) (.tmp 76), 0, _, _, none⟩) (v := ?_) rfl (by kernel_rfl) (fun _ _ _ h => h) (Or.inl ⟨by rfl, ?hy6⟩) (Kept.refl _ _).drew ?_
          case hy6 => (intro W hS; (try dsimp only at hS); go_simp; try with_reducible rfl)
          try simp only [Act.put, lyA, ly0, ly1]
          refine Gz.tk (i := 7) (oi := ⟨some 78, .fieldAddr 48 (.tmp 77) 0, 0, _, _, none⟩) (v := ?_) rfl (by kernel_rfl) (fun _ _ _ h => h) (Or.inl ⟨by rfl, ?hy7⟩) (Kept.refl _ _).drew ?_
          case hy7 => (intro W hS; (try dsimp only at hS); go_simp; try with_reducible rfl)
          try simp only [Act.put, lyA, ly0, ly1]
          refine Gz.tk (i := 8) (oi := ⟨some 79, .load 3 (.tmp 78), 3, _, _, none⟩) (v := ?_) rfl (by kernel_rfl) (fun _ _ _ h => h) (Or.inl ⟨by rfl, ?hy8⟩) (Kept.refl _ _).drew ?_
          case hy8 => (intro W hS; (try dsimp only at hS); go_simp; try with_reducible rfl)
          try simp only [Act.put, lyA, ly0, ly1]
          refine Gz.tk (i := 9) (oi := ⟨some 80, .binOp BinOp.eql 3 (.tmp 79) (.const (Value.int IntKind.i64 2)) 3, 4, _, _, none⟩) (v := ?_) rfl (by kernel_rfl) (fun _ _ _ h => h) (Or.inl ⟨by rfl, ?hy9⟩) (Kept.refl _ _).drew ?_
          case hy9 => (intro W hS; (try dsimp only at hS); go_simp; try with_reducible rfl)
          try simp only [Act.put, lyA, ly0, ly1]
          refine Gz.tk (i := 10) (oi := ⟨some 81, .move (.tmp 80), 4, _, _, none⟩) (v := ?_) rfl (by kernel_rfl) (fun _ _ _ h => h) (Or.inl ⟨by rfl, ?hy10⟩) (Kept.refl _ _).drew ?_
          case hy10 => (intro W hS; (try dsimp only at hS); go_simp; try with_reducible rfl)
          try simp only [Act.put, lyA, ly0, ly1]
          refine Gz.tk (i := 11) (oi := ⟨some 82, .move (.tmp 1), 71, _, _, some (10, true)⟩) (v := ?_) rfl (by kernel_rfl) (fun _ _ _ h => h) (Or.inl ⟨by rfl, ?hy11⟩) (Kept.refl _ _).drew ?_
          case hy11 => (intro W hS; (try dsimp only at hS); go_simp; try with_reducible rfl)
          try simp only [Act.put, lyA, ly0, ly1]
          refine Gz.tk (i := 12) (oi := ⟨some 83, .move (.tmp 3), 3, _, _, some (10, true)⟩) (v := ?_) rfl (by kernel_rfl) (fun _ _ _ h => h) (Or.inl ⟨by rfl, ?hy12⟩) (Kept.refl _ _).drew ?_
          case hy12 => (intro W hS; (try dsimp only at hS); go_simp; try with_reducible rfl)
          try simp only [Act.put, lyA, ly0, ly1]
          refine Gz.tk (i := 13) (oi := ⟨some 84, .indexAddr 71 (.tmp 82) (.tmp 83), 0, _, _, some (10, true)⟩) (v := ?_) rfl (by kernel_rfl) (fun _ _ _ h => h) (Or.inl ⟨by rfl, ?hy13⟩) (Kept.refl _ _).drew ?_
          case hy13 => (intro W hS; (try dsimp only at hS); go_simp; try with_reducible rfl)
          try simp only [Act.put, lyA, ly0, ly1]
          refine Gz.tk (i := 14) (oi := ⟨some 85, .fieldAddr 77 (.tmp 84) 1, 0, _, _, some (10, true)⟩) (v := ?_) rfl (by kernel_rfl) (fun _ _ _ h => h) (Or.inl ⟨by rfl, ?hy14⟩) (Kept.refl _ _).drew ?_
          case hy14 => (intro W hS; (try dsimp only at hS); go_simp; try with_reducible rfl)
          try simp only [Act.put, lyA, ly0, ly1]
          refine Gz.tk (i := 15) (oi := ⟨some 86, .load 75 (.tmp 85), 75, _, _, some (10, true)⟩) (v := ?_) rfl (by kernel_rfl) (fun _ _ _ h => h) (Or.inl ⟨by rfl, ?hy15⟩) (Kept.refl _ _).drew ?_
          case hy15 => (intro W hS; (try dsimp only at hS); go_simp; try with_reducible rfl)
          try simp only [Act.put, lyA, ly0, ly1]
          refine Gz.tk (i := 16) (oi := ⟨some 87, .move (.tmp 14), 3, _, _, some (10, true)⟩) (v := ?_) rfl (by kernel_rfl) (fun _ _ _ h => h) (Or.inl ⟨by rfl, ?hy16⟩) (Kept.refl _ _).drew ?_
          case hy16 => (intro W hS; (try dsimp only at hS); go_simp; try with_reducible rfl)
          try simp only [Act.put, lyA, ly0, ly1]
          refine Gz.tk (i := 17) (oi := ⟨some 88, .indexAddr 75 (.tmp 86) (.tmp 87), 0, _, _, some (10, true)⟩) (v := ?_) rfl (by kernel_rfl) (fun _ _ _ h => h) (Or.inl ⟨by rfl, ?hy17⟩) (Kept.refl _ _).drew ?_
          case hy17 => (intro W hS; (try dsimp only at hS); go_simp; try with_reducible rfl)
          try simp only [Act.put, lyA, ly0, ly1]
          refine Gz.tk (i := 18) (oi := ⟨some 89, .fieldAddr 48 (.tmp 88) 1, 0, _, _, some (10, true)⟩) (v := ?_) rfl (by kernel_rfl) (fun _ _ _ h => h) (Or.inl ⟨by rfl, ?hy18⟩) (Kept.refl _ _).drew ?_
          case hy18 => (intro W hS; (try dsimp only at hS); go_simp; try with_reducible rfl)
          try simp only [Act.put, lyA, ly0, ly1]
          refine Gz.tk (i := 19) (oi := ⟨some 90, .load 9 (.tmp 89), 9, _, _, some (10, true)⟩) (v := ?_) rfl (by kernel_rfl) (fun _ _ _ h => h) (Or.inl ⟨by rfl, ?hy19⟩) (Kept.refl _ _).drew ?_
          case hy19 => (intro W hS; (try dsimp only at hS); go_simp; try with_reducible rfl)
          try simp only [Act.put, lyA, ly0, ly1]
          refine Gz.tk (i := 20) (oi := ⟨some 91, .fieldAddr 48 (.tmp 11) 1, 0, _, _, some (10, true)⟩) (v := ?_) rfl (by kernel_rfl) (fun _ _ _ h => h) (Or.inl ⟨by rfl, ?hy20⟩) (Kept.refl _ _).drew ?_
          case hy20 => (intro W hS; (try dsimp only at hS); go_simp; try with_reducible rfl)
          try simp only [Act.put, lyA, ly0, ly1]
          refine Gz.tk (i := 21) (oi := ⟨some 92, .load 9 (.tmp 91), 9, _, _, some (10, true)⟩) (v := ?_) rfl (by kernel_rfl) (fun _ _ _ h => h) (Or.inl ⟨by rfl, ?hy21⟩) (Kept.refl _ _).drew ?_
          case hy21 => (intro W hS; (try dsimp only at hS); go_simp; try with_reducible rfl)
          try simp only [Act.put, lyA, ly0, ly1]
          refine Gz.tk (i := 22) (oi := ⟨some 93, .binOp BinOp.eql 9 (.tmp 90) (.tmp 92) 9, 4, _, _, some (10, true)⟩) (v := ?_) rfl (by kernel_rfl) (fun _ _ _ h => h) (Or.inl ⟨by rfl, ?hy22⟩) (Kept.refl _ _).drew ?_
          case hy22 => (intro W hS; (try dsimp only at hS); go_simp; try with_reducible rfl)
          try simp only [Act.put, lyA, ly0, ly1]
          refine Gz.tk (i := 23) (oi := ⟨some 94, .pick (.tmp 81) (.tmp 93) (.const (Value.bool false)), 4, _, _, none⟩) (v := ?_) rfl (by kernel_rfl) (fun _ _ _ h => h) (Or.inl ⟨by rfl, ?hy23⟩) (Kept.refl _ _).drew ?_
          case hy23 => (intro W hS; (try dsimp only at hS); go_simp; try with_reducible rfl)
          try simp only [Act.put, lyA, ly0, ly1]
          refine Gz.done (by kernel_rfl) ?_ _
          go_wp2_with fail
          go_ret
          exact ⟨by rw [HY.out HT.out]; rfl, (K1.out.trans HKr.out).trans (Kept.refl _ _).drew⟩
        · have h1 : (yt == xt) = false := by simp [ht]
          have h2 : decide (yt = xt) = false := by simp [ht]
          have HT : Hid (hit6 ⟨xk, xt, xg, xb⟩ ⟨2, yt, yg, yb⟩ = false) := by show _ = _; unfold hit6; simp [ht]
          go_wp2_with fail
          refine Gz.begin (fun W => Kept (fun _ => True) wI W) (fun _ => false) (by kernel_rfl) ?_
          refine Gz.tk (i := 0) (oi := ⟨some 71, .move (.tmp 1), 71, _, _, none⟩) (v := ?_) rfl (by kernel_rfl) (fun _ _ _ h => h) (Or.inl ⟨by rfl, ?hy0⟩) (Kept.refl _ _).drew ?_
          case hy0 => (intro W hS; (try dsimp only at hS); go_simp; try with_reducible rfl)
          try simp only [Act.put, lyA, ly0, ly1]
          refine Gz.tk (i := 1) (oi := ⟨some 72, .move (.tmp 3), 3, _, _, none⟩) (v := ?_) rfl (by kernel_rfl) (fun _ _ _ h => h) (Or.inl ⟨by rfl, ?hy1⟩) (Kept.refl _ _).drew ?_
          case hy1 => (intro W hS; (try dsimp only at hS); go_simp; try with_reducible rfl)
          try simp only [Act.put, lyA, ly0, ly1]
          refine Gz.tk (i := 2) (oi := ⟨some 73, .indexAddr 71 (.tmp 71) (.tmp 72), 0, _, _, none⟩) (v := ?_) rfl (by kernel_rfl) (fun _ _ _ h => h) (Or.inl ⟨by rfl, ?hy2⟩) (Kept.refl _ _).drew ?_
          case hy2 => (intro W hS; (try dsimp only at hS); go_simp; try with_reducible rfl)
          try simp only [Act.put, lyA, ly0, ly1]
          refine Gz.tk (i := 3) (oi := ⟨some 74, .fieldAddr 77 (.tmp 73) 1, 0, _, _, none⟩) (v := ?_) rfl (by kernel_rfl) (fun _ _ _ h => h) (Or.inl ⟨by rfl, ?hy3⟩) (Kept.refl _ _).drew ?_
          case hy3 => (intro W hS; (try dsimp only at hS); go_simp; try with_reducible rfl)
          try simp only [Act.put, lyA, ly0, ly1]
          refine Gz.tk (i := 4) (oi := ⟨some 75, .load 75 (.tmp 74), 75, _, _, none⟩) (v := ?_) rfl (by kernel_rfl) (fun _ _ _ h => h) (Or.inl ⟨by rfl, ?hy4⟩) (Kept.refl _ _).drew ?_
          case hy4 => (intro W hS; (try dsimp only at hS); go_simp; try with_reducible rfl)
          try simp only [Act.put, lyA, ly0, ly1]
          refine Gz.tk (i := 5) (oi := ⟨some 76, .move (.tmp 14), 3, _, _, none⟩) (v := ?_) rfl (by kernel_rfl) (fun _ _ _ h => h) (Or.inl ⟨by rfl, ?hy5⟩) (Kept.refl _ _).drew ?_
          case hy5 => (intro W hS; (try dsimp only at hS); go_simp; try with_reducible rfl)
          try simp only [Act.put, lyA, ly0, ly1]
          refine Gz.tk (i := 6) (oi := ⟨some 77, .indexAddr 75 (.tmp 75) (.tmp 76), 0, _, _, none⟩) (v := ?_) rfl (by kernel_rfl) (fun _ _ _ h => h) (Or.inl ⟨by rfl, ?hy6⟩) (Kept.refl _ _).drew ?_
          case hy6 => (intro W hS; (try dsimp only at hS); go_simp; try with_reducible rfl)
          try simp only [Act.put, lyA, ly0, ly1]
          refine Gz.tk (i := 7) (oi := ⟨some 78, .fieldAddr 48 (.tmp 77) 0, 0, _, _, none⟩) (v := ?_) rfl (by kernel_rfl) (fun _ _ _ h => h) (Or.inl ⟨by rfl, ?hy7⟩) (Kept.refl _ _).drew ?_
          case hy7 => (intro W hS; (try dsimp only at hS); go_simp; try with_reducible rfl)
          try simp only [Act.put, lyA, ly0, ly1]
          refine Gz.tk (i := 8) (oi := ⟨some 79, .load 3 (.tmp 78), 3, _, _, none⟩) (v := ?_) rfl (by kernel_rfl) (fun _ _ _ h => h) (Or.inl ⟨by rfl, ?hy8⟩) (Kept.refl _ _).drew ?_
          case hy8 => (intro W hS; (try dsimp only at hS); go_simp; try with_reducible rfl)
          try simp only [Act.put, lyA, ly0, ly1]
          refine Gz.tk (i := 9) (oi := ⟨some 80, .binOp BinOp.eql 3 (.tmp 79) (.const (Value.int IntKind.i64 2)) 3, 4, _, _, none⟩) (v := ?_) rfl (by kernel_rfl) (fun _ _ _ h => h) (Or.inl ⟨by rfl, ?hy9⟩) (Kept.refl _ _).drew ?_
          case hy9 => (intro W hS; (try dsimp only at hS); go_simp; try with_reducible rfl)
          try simp only [Act.put, lyA, ly0, ly1]
          refine Gz.tk (i := 10) (oi := ⟨some 81, .move (.tmp 80), 4, _, _, none⟩) (v := ?_) rfl (by kernel_rfl) (fun _ _ _ h => h) (Or.inl ⟨by rfl, ?hy10⟩) (Kept.refl _ _).drew ?_
          case hy10 => (intro W hS; (try dsimp only at hS); go_simp; try with_reducible rfl)
          try simp only [Act.put, lyA, ly0, ly1]
          refine Gz.tk (i := 11) (oi := ⟨some 82, .move (.tmp 1), 71, _, _, some (10, true)⟩) (v := ?_) rfl (by kernel_rfl) (fun _ _ _ h => h) (Or.inl ⟨by rfl, ?hy11⟩) (Kept.refl _ _).drew ?_
          case hy11 => (intro W hS; (try dsimp only at hS); go_simp; try with_reducible rfl)
          try simp only [Act.put, lyA, ly0, ly1]
          refine Gz.tk (i := 12) (oi := ⟨some 83, .move (.tmp 3), 3, _, _, some (10, true)⟩) (v := ?_) rfl (by kernel_rfl) (fun _ _ _ h => h) (Or.inl ⟨by rfl, ?hy12⟩) (Kept.refl _ _).drew ?_
          case hy12 => (intro W hS; (try dsimp only at hS); go_simp; try with_reducible rfl)
          try simp only [Act.put, lyA, ly0, ly1]
          refine Gz.tk (i := 13) (oi := ⟨some 84, .indexAddr 71 (.tmp 82) (.tmp 83), 0, _, _, some (10, true)⟩) (v := ?_) rfl (by kernel_rfl) (fun _ _ _ h => h) (Or.inl ⟨by rfl, ?hy13⟩) (Kept.refl _ _).drew ?_
          case hy13 => (intro W hS; (try dsimp only at hS); go_simp; try with_reducible rfl)
          try simp only [Act.put, lyA, ly0, ly1]
          refine Gz.tk (i := 14) (oi := ⟨some 85, .fieldAddr 77 (.tmp 84) 1, 0, _, _, some (10, true)⟩) (v := ?_) rfl (by kernel_rfl) (fun _ _ _ h => h) (Or.inl ⟨by rfl, ?hy14⟩) (Kept.refl _ _).drew ?_
          case hy14 => (intro W hS; (try dsimp only at hS); go_simp; try with_reducible rfl)
          try simp only [Act.put, lyA, ly0, ly1]
          refine Gz.tk (i := 15) (oi := ⟨some 86, .load 75 (.tmp 85), 75, _, _, some (10, true)⟩) (v := ?_) rfl (by kernel_rfl) (fun _ _ _ h => h) (Or.inl ⟨by rfl, ?hy15⟩) (Kept.refl _ _).drew ?_
          case hy15 => (intro W hS; (try dsimp only at hS); go_simp; try with_reducible rfl)
          try simp only [Act.put, lyA, ly0, ly1]
          refine Gz.tk (i := 16) (oi := ⟨some 87, .move (.tmp 14), 3, _, _, some (10, true)⟩) (v := ?_) rfl (by kernel_rfl) (fun _ _ _ h => h) (Or.inl ⟨by rfl, ?hy16⟩) (Kept.refl _ _).drew ?_
          case hy16 => (intro W hS; (try dsimp only at hS); go_simp; try with_reducible rfl)
          try simp only [Act.put, lyA, ly0, ly1]
          refine Gz.tk (i := 17) (oi := ⟨some 88, .indexAddr 75 (.tmp 86) (.tmp 87), 0, _, _, some (10, true)⟩) (v := ?_) rfl (by kernel_rfl) (fun _ _ _ h => h) (Or.inl ⟨by rfl, ?hy17⟩) (Kept.refl _ _).drew ?_
          case hy17 => (intro W hS; (try dsimp only at hS); go_simp; try with_reducible rfl)
          try simp only [Act.put, lyA, ly0, ly1]
          refine Gz.tk (i := 18) (oi := ⟨some 89, .fieldAddr 48 (.tmp 88) 1, 0, _, _, some (10, true)⟩) (v := ?_) rfl (by kernel_rfl) (fun _ _ _ h => h) (Or.inl ⟨by rfl, ?hy18⟩) (Kept.refl _ _).drew ?_
          case hy18 => (intro W hS; (try dsimp only at hS); go_simp; try with_reducible rfl)
          try simp only [Act.put, lyA, ly0, ly1]
          refine Gz.tk (i := 19) (oi := ⟨some 90, .load 9 (.tmp 89), 9, _, _, some (10, true)⟩) (v := ?_) rfl (by kernel_rfl) (fun _ _ _ h => h) (Or.inl ⟨by rfl, ?hy19⟩) (Kept.refl _ _).drew ?_
          case hy19 => (intro W hS; (try dsimp only at hS); go_simp; try with_reducible rfl)
          try simp only [Act.put, lyA, ly0, ly1]
          refine Gz.tk (i := 20) (oi := ⟨some 91, .fieldAddr 48 (.tmp 11) 1, 0, _, _, some (10, true)⟩) (v := ?_) rfl (by kernel_rfl) (fun _ _ _ h => h) (Or.inl ⟨by rfl, ?hy20⟩) (Kept.refl _ _).drew ?_
          case hy20 => (intro W hS; (try dsimp only at hS); go_simp; try with_reducible rfl)
          try simp only [Act.put, lyA, ly0, ly1]
          refine Gz.tk (i := 21) (oi := ⟨some 92, .load 9 (.tmp 91), 9, _, _, some (10, true)⟩) (v := ?_) rfl (by kernel_rfl) (fun _ _ _ h => h) (Or.inl ⟨by rfl, ?hy21⟩) (Kept.refl _ _).drew ?_
          case hy21 => (intro W hS; (try dsimp only at hS); go_simp; try with_reducible rfl)
          try simp only [Act.put, lyA, ly0, ly1]
          refine Gz.tk (i := 22) (oi := ⟨some 93, .binOp BinOp.eql 9 (.tmp 90) (.tmp 92) 9, 4, _, _, some (10, true)⟩) (v := ?_) rfl (by kernel_rfl) (fun _ _ _ h => h) (Or.inl ⟨by rfl, ?hy22⟩) (Kept.refl _ _).drew ?_
          case hy22 => (intro W hS; (try dsimp only at hS); go_simp; try with_reducible rfl)
          try simp only [Act.put, lyA, ly0, ly1]
          refine Gz.tk (i := 23) (oi := ⟨some 94, .pick (.tmp 81) (.tmp 93) (.const (Value.bool false)), 4, _, _, none⟩) (v := ?_) rfl (by kernel_rfl) (fun _ _ _ h => h) (Or.inl ⟨by rfl, ?hy23⟩) (Kept.refl _ _).drew ?_
          case hy23 => (intro W hS; (try dsimp only at hS); go_simp; try with_reducible rfl)
          try simp only [Act.put, lyA, ly0, ly1]
          refine Gz.done (by kernel_rfl) ?_ _
          go_wp2_with fail
          go_roundw
          case rel => exact ⟨k + 1, by have := HI.out; omega, by go_num, (HNo.out false).2 HT.out, HKr.out.trans (Kept.refl _ _).drew⟩
          case measure => have := HI.out; simp [intOf]; omega
      · have e2 : ((yk : Int) == 2) = false := beq_eq_false_iff_ne.2 (by omega)
        have HT : Hid (hit6 ⟨xk, xt, xg, xb⟩ ⟨yk, yt, yg, yb⟩ = false) := by show _ = _; unfold hit6; simp [hk2]
        go_wp2_with fail
        refine Gz.begin (fun W => Kept (fun _ => True) wI W) (fun _ => false) (by kernel_rfl) ?_
        refine Gz.tk (i := 0) (oi := ⟨some 71, .move (.tmp 1), 71, _, _, none⟩) (v := ?_) rfl (by kernel_rfl) (fun _ _ _ h => h) (Or.inl ⟨by rfl, ?hy0⟩) (Kept.refl _ _).drew ?_
        case hy0 => (intro W hS; (try dsimp only at hS); go_simp; try with_reducible rfl)
        try simp only [Act.put, lyA, ly0, ly1]
        refine Gz.tk (i := 1) (oi := ⟨some 72, .move (.tmp 3), 3, _, _, none⟩) (v := ?_) rfl (by kernel_rfl) (fun _ _ _ h => h) (Or.inl ⟨by rfl, ?hy1⟩) (Kept.refl _ _).drew ?_
        case hy1 => (intro W hS; (try dsimp only at hS); go_simp; try with_reducible rfl)
        try simp only [Act.put, lyA, ly0, ly1]
        refine Gz.tk (i := 2) (oi := ⟨some 73, .indexAddr 71 (.tmp 71) (.tmp 72), 0, _, _, none⟩) (v := ?_) rfl (by kernel_rfl) (fun _ _ _ h => h) (Or.inl ⟨by rfl, ?hy2⟩) (Kept.refl _ _).drew ?_
        case hy2 => (intro W hS; (try dsimp only at hS); go_simp; try with_reducible rfl)
        try simp only [Act.put, lyA, ly0, ly1]
        refine Gz.tk (i := 3) (oi := ⟨some 74, .fieldAddr 77 (.tmp 73) 1, 0, _, _, none⟩) (v := ?_) rfl (by kernel_rfl) (fun _ _ _ h => h) (Or.inl ⟨by rfl, ?hy3⟩) (Kept.refl _ _).drew ?_
        case hy3 => (intro W hS; (try dsimp only at hS); go_simp; try with_reducible rfl)
        try simp only [Act.put, lyA, ly0, ly1]
        refine Gz.tk (i := 4) (oi := ⟨some 75, .load 75 (.tmp 74), 75, _, _, none⟩) (v := ?_) rfl (by kernel_rfl) (fun _ _ _ h => h) (Or.inl ⟨by rfl, ?hy4⟩) (Kept.refl _ _).drew ?_
        case hy4 => (intro W hS; (try dsimp only at hS); go_simp; try with_reducible rfl)
        try simp only [Act.put, lyA, ly0, ly1]
        refine Gz.tk (i := 5) (oi := ⟨some 76, .move (.tmp 14), 3, _, _, none⟩) (v := ?_) rfl (by kernel_rfl) (fun _ _ _ h => h) (Or.inl ⟨by rfl, ?hy5⟩) (Kept.refl _ _).drew ?_
        case hy5 => (intro W hS; (try dsimp only at hS); go_simp; try with_reducible rfl)
        try simp only [Act.put, lyA, ly0, ly1]
        refine Gz.tk (i := 6) (oi := ⟨some 77, .indexAddr 75 (.tmp 75) (.tmp 76), 0, _, _, none⟩) (v := ?_) rfl (by kernel_rfl) (fun _ _ _ h => h) (Or.inl ⟨by rfl, ?hy6⟩) (Kept.refl _ _).drew ?_
        case hy6 => (intro W hS; (try dsimp only at hS); go_simp; try with_reducible rfl)
        try simp only [Act.put, lyA, ly0, ly1]
        refine Gz.tk (i := 7) (oi := ⟨some 78, .fieldAddr 48 (.tmp 77) 0, 0, _, _, none⟩) (v := ?_) rfl (by kernel_rfl) (fun _ _ _ h => h) (Or.inl ⟨by rfl, ?hy7⟩) (Kept.refl _ _).drew ?_
        case hy7 => (intro W hS; (try dsimp only at hS); go_simp; try with_reducible rfl)
        try simp only [Act.put, lyA, ly0, ly1]
        refine Gz.tk (i := 8) (oi := ⟨some 79, .load 3 (.tmp 78), 3, _, _, none⟩) (v := ?_) rfl (by kernel_rfl) (fun _ _ _ h => h) (Or.inl ⟨by rfl, ?hy8⟩) (Kept.refl _ _).drew ?_
        case hy8 => (intro W hS; (try dsimp only at hS); go_simp; try with_reducible rfl)
        try simp only [Act.put, lyA, ly0, ly1]
        refine Gz.tk (i := 9) (oi := ⟨some 80, .binOp BinOp.eql 3 (.tmp 79) (.const (Value.int IntKind.i64 2)) 3, 4, _, _, none⟩) (v := ?_) rfl (by kernel_rfl) (fun _ _ _ h => h) (Or.inl ⟨by rfl, ?hy9⟩) (Kept.refl _ _).drew ?_
        case hy9 => (intro W hS; (try dsimp only at hS); go_simp; try with_reducible rfl)
        try simp only [Act.put, lyA, ly0, ly1]
        refine Gz.tk (i := 10) (oi := ⟨some 81, .move (.tmp 80), 4, _, _, none⟩) (v := ?_) rfl (by kernel_rfl) (fun _ _ _ h => h) (Or.inl ⟨by rfl, ?hy10⟩) (Kept.refl _ _).drew ?_
        case hy10 => (intro W hS; (try dsimp only at hS); go_simp; try with_reducible rfl)
        try simp only [Act.put, lyA, ly0, ly1]
        refine Gz.tk (i := 11) (oi := ⟨some 82, .move (.tmp 1), 71, _, _, some (10, true)⟩) (v := undef) rfl (by kernel_rfl) (fun _ _ _ h => h) (Or.inr ⟨by rfl, rfl⟩) (Kept.refl _ _).drew ?_
        try simp only [Act.put, lyA, ly0, ly1]
        refine Gz.tk (i := 12) (oi := ⟨some 83, .move (.tmp 3), 3, _, _, some (10, true)⟩) (v := undef) rfl (by kernel_rfl) (fun _ _ _ h => h) (Or.inr ⟨by rfl, rfl⟩) (Kept.refl _ _).drew ?_
        try simp only [Act.put, lyA, ly0, ly1]
        refine Gz.tk (i := 13) (oi := ⟨some 84, .indexAddr 71 (.tmp 82) (.tmp 83), 0, _, _, some (10, true)⟩) (v := undef) rfl (by kernel_rfl) (fun _ _ _ h => h) (Or.inr ⟨by rfl, rfl⟩) (Kept.refl _ _).drew ?_
        try simp only [Act.put, lyA, ly0, ly1]
        refine Gz.tk (i := 14) (oi := ⟨some 85, .fieldAddr 77 (.tmp 84) 1, 0, _, _, some (10, true)⟩) (v := undef) rfl (by kernel_rfl) (fun _ _ _ h => h) (Or.inr ⟨by rfl, rfl⟩) (Kept.refl _ _).drew ?_
        try simp only [Act.put, lyA, ly0, ly1]
        refine Gz.tk (i := 15) (oi := ⟨some 86, .load 75 (.tmp 85), 75, _, _, some (10, true)⟩) (v := undef) rfl (by kernel_rfl) (fun _ _ _ h => h) (Or.inr ⟨by rfl, rfl⟩) (Kept.refl _ _).drew ?_
        try simp only [Act.put, lyA, ly0, ly1]
        refine Gz.tk (i := 16) (oi := ⟨some 87, .move (.tmp 14), 3, _, _, some (10, true)⟩) (v := undef) rfl (by kernel_rfl) (fun _ _ _ h => h) (Or.inr ⟨by rfl, rfl⟩) (Kept.refl _ _).drew ?_
        try simp only [Act.put, lyA, ly0, ly1]
        refine Gz.tk (i := 17) (oi := ⟨some 88, .indexAddr 75 (.tmp 86) (.tmp 87), 0, _, _, some (10, true)⟩) (v := undef) rfl (by kernel_rfl) (fun _ _ _ h => h) (Or.inr ⟨by rfl, rfl⟩) (Kept.refl _ _).drew ?_
        try simp only [Act.put, lyA, ly0, ly1]
        refine Gz.tk (i := 18) (oi := ⟨some 89, .fieldAddr 48 (.tmp 88) 1, 0, _, _, some (10, true)⟩) (v := undef) rfl (by kernel_rfl) (fun _ _ _ h => h) (Or.inr ⟨by rfl, rfl⟩) (Kept.refl _ _).drew ?_
        try simp only [Act.put, lyA, ly0, ly1]
        refine Gz.tk (i := 19) (oi := ⟨some 90, .load 9 (.tmp 89), 9, _, _, some (10, true)⟩) (v := undef) rfl (by kernel_rfl) (fun _ _ _ h => h) (Or.inr ⟨by rfl, rfl⟩) (Kept.refl _ _).drew ?_
        try simp only [Act.put, lyA, ly0, ly1]
        refine Gz.tk (i := 20) (oi := ⟨some 91, .fieldAddr 48 (.tmp 11) 1, 0, _, _, some (10, true)⟩) (v := undef) rfl (by kernel_rfl) (fun _ _ _ h => h) (Or.inr ⟨by rfl, rfl⟩) (Kept.refl _ _).drew ?_
        try simp only [Act.put, lyA, ly0, ly1]
        refine Gz.tk (i := 21) (oi := ⟨some 92, .load 9 (.tmp 91), 9, _, _, some (10, true)⟩) (v := undef) rfl (by kernel_rfl) (fun _ _ _ h => h) (Or.inr ⟨by rfl, rfl⟩) (Kept.refl _ _).drew ?_
        try simp only [Act.put, lyA, ly0, ly1]
        refine Gz.tk (i := 22) (oi := ⟨some 93, .binOp BinOp.eql 9 (.tmp 90) (.tmp 92) 9, 4, _, _, some (10, true)⟩) (v := undef) rfl (by kernel_rfl) (fun _ _ _ h => h) (Or.inr ⟨by rfl, rfl⟩) (Kept.refl _ _).drew ?_
        try simp only [Act.put, lyA, ly0, ly1]
        refine Gz.tk (i := 23) (oi := ⟨some 94, .pick (.tmp 81) (.tmp 93) (.const (Value.bool false)), 4, _, _, none⟩) (v := ?_) rfl (by kernel_rfl) (fun _ _ _ h => h) (Or.inl ⟨by rfl, ?hy23⟩) (Kept.refl _ _).drew ?_
        case hy23 => (intro W hS; (try dsimp only at hS); go_simp; try with_reducible rfl)
        try simp only [Act.put, lyA, ly0, ly1]
        refine Gz.done (by kernel_rfl) ?_ _
        go_wp2_with fail
        go_roundw
        case rel => exact ⟨k + 1, by have := HI.out; omega, by go_num, (HNo.out false).2 HT.out, HKr.out.trans (Kept.refl _ _).drew⟩
        case measure => have := HI.out; simp [intOf]; omega
    · obtain rfl : k = q := by omega
      have l2 : ¬ ((k : Nat) : Int) < (k : Int) := by omega
      have HNo : Hid (((x.us.take k).any fun y => hit6 ⟨xk, xt, xg, xb⟩ y.1) = false) := hno
      obtain ⟨x0, x1, _, _⟩ := (HF1.out.kept hkr trivial).cell
      have HKK : Hid (Kept (fun _ => True) w wI) := hkk
      clear hno hk hlt hkr hkk
      by_cases h3 : xk = 3
      · have e3 : ((xk : Int) == 3) = true := by rw [h3]; rfl
        have HZ : Hid (decide (xk = 3) = true) := by show _ = _; simp [h3]
        clear h3
        go_wp2_with fail
        go_ret
        exact ⟨by rw [HNo.out, HZ.out]; rfl, HKK.out⟩
      · have e3 : ((xk : Int) == 3) = false := beq_eq_false_iff_ne.2 (by omega)
        have HZ : Hid (decide (xk = 3) = false) := by show _ = _; simp [h3]
        clear h3
        go_wp2_with fail
        go_ret
        exact ⟨by rw [HNo.out, HZ.out]; rfl, HKK.out⟩

end Go.Proofs.Ytmcaoimgmgjjiaa
