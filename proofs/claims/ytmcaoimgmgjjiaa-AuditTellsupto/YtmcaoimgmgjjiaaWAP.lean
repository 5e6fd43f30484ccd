/-
  Texts of the proofs, 42 of 52.
-/
import Derived.Test.YtmcaoimgmgjjiaaWAO
namespace Go.Proofs.Ytmcaoimgmgjjiaa
open Go.RowKit Go.Maps Go.Sort

set_option maxRecDepth 100000 in
set_option maxHeartbeats 4000000 in
theorem wrong7_any {w : World} {al : Option Addr} {cl : List Uc} {c0 : Nat} {ak : Option Addr} {ck : Nat} {xs : List Rk} (h : Rkv w ak xs) (hcv : Cv w al cl) (i q : Nat) (hi : i < xs.length) (hq : q < xs[i].us.length) (hcl : i < cl.length) (hqm : q ≤ 4096) (hsz : xs.length ≤ 1000 ∧ (∀ x ∈ xs, x.us.length ≤ 100000) ∧ (xs[i].us[q]).1.gs.length ≤ 1000) :
    Calls Try.prog 69 #[.slice al cl.length c0, .slice ak xs.length ck, .int .i64 7, .int .i64 i, .int .i64 q] w (EW (((xs[i].us[q]).1.k = 3 ∧ ((xs[i].us[q]).1.gs.any fun y => decide ((y : Int) = cl[i].g)) = false) ∨ Beside (hit7 (xs[i].us[q]).1) xs i xs.length) w) := by
  obtain ⟨b, off, rfl, cL0, cR⟩ := h.two i hi
  clear cL0
  have hvu := h.us _ (List.getElem_mem hi)
  obtain ⟨b2, off2, hb2, q0, q1, q2, q3⟩ := rec_cells hvu q hq
  have hgv := h.gs _ (List.getElem_mem hi) _ (List.getElem_mem hq)
  rw [hb2] at cR
  have HX : Hid (Rkv w (some ⟨b, off, none⟩) xs) := h
  have i0 : (0 : Int) ≤ (i : Int) := by omega
  have i1 : (i : Int) < (xs.length : Int) := by omega
  have j0 : (0 : Int) ≤ (q : Int) := by omega
  have j1 : (q : Int) < (xs[i].us.length : Int) := by omega
  have HSZ : Hid (xs.length ≤ 1000 ∧ (∀ x ∈ xs, x.us.length ≤ 100000)) := ⟨hsz.1, hsz.2.1⟩
  have hxl := hsz.2.2
  clear h hsz hvu
  generalize xs[i].us[q] = u at *
  obtain ⟨⟨xk, xt, xg, xb⟩, xa, xc⟩ := u
  simp only at q0 q1 q2 q3 hgv hxl ⊢
  have HXl : Hid (xg.length ≤ 1000) := hxl
  obtain ⟨bc, oc, rfl, hbc, hcc⟩ := hcv.vw.row (by omega)
  have g00 : ∀ W, Kept (fun _ => True) w W → W.cell? ⟨bc, oc + i * 2, none⟩ = some (.int .i64 cl[i].g) := fun W q => (kept_cell q hbc trivial).trans (hcc i hcl 0 _ rfl)
  have ig : (i : Int) < (cl.length : Int) := by omega
  clear hcc hbc hcv
  generalize cl[i].g = gg at *
  clear hcl
  generalize cl.length = NC at *
  generalize xs[i].us.length = M at *
  generalize xs[i].cR = cx at *
  obtain ⟨w1, hw1⟩ : ∃ y, y = w.alloc (.cells #[.int .i64 (xk : Nat), .string ⟨xt.toArray⟩, .slice xa xg.length xc, .string ⟨xb.toArray⟩] 48) := ⟨_, rfl⟩
  have k1 : Kept (fun _ => True) w w1 := by rw [hw1]; exact (Kept.refl _ _).alloc _
  have F1 : Four4 w1 w.heap.size 48 (.int .i64 (xk : Nat)) (.string ⟨xt.toArray⟩) (.slice xa xg.length xc) (.string ⟨xb.toArray⟩) := by rw [hw1]; exact heap_alloc_new w _
  have HF1 : Hid (Four4 w1 w.heap.size 48 (.int .i64 (xk : Nat)) (.string ⟨xt.toArray⟩) (.slice xa xg.length xc) (.string ⟨xb.toArray⟩)) := F1
  have K1 : Hid (Kept (fun _ => True) w w1) := k1
  have HX1 : Hid (Rkv w1 (some ⟨b, off, none⟩) xs) := HX.out.all k1
  have HGx : Hid (Gv w1 xa xg) := hgv.all k1
  obtain ⟨x0, x1, x2, _⟩ := F1.cell
  have cr0 := cR w (Kept.refl _ _)
  have q00 := q0 w (Kept.refl _ _)
  have q10 := q1 w (Kept.refl _ _)
  have q20 := q2 w (Kept.refl _ _)
  have q30 := q3 w (Kept.refl _ _)
  have HG0 : Hid (∀ W, Kept (fun _ => True) w W → W.cell? ⟨bc, oc + i * 2, none⟩ = some (.int .i64 gg)) := g00
  clear g00
  clear k1 F1 cR q0 q1 q2 q3 hb2 hq hgv HX hi hxl
  go_enter Try.func69, Try.ntmps69
  go_upto_region 2 with fail
  rw [← hw1]
  clear hw1 cr0 q00 q10 q20 q30
  generalize w.heap.size = X at *
  by_cases hx3 : xk = 3
  · have ex3 : ((xk : Int) == 3) = true := by rw [hx3]; rfl
    have HX3 : Hid (xk = 3) := hx3
    have hxl := HXl.out
    clear hx3
    go_wp2_with fail
    go_loopw [15, 16] (fun v t wr => ∃ k : Nat, k ≤ xg.length ∧ t = .int .i64 k ∧ v = .bool ((xg.take k).any fun y => decide ((y : Int) = gg)) ∧ Kept (fun _ => True) w1 wr) (fun _ t _ => xg.length - (intOf t).toNat)
    case atStart => exact ⟨0, Nat.zero_le _, rfl, rfl, Kept.refl _ _⟩
    case round =>
      obtain ⟨k, hk, rfl, rfl, hkr⟩ := hrel
      obtain ⟨wI, hwI⟩ : ∃ y, y = wr := ⟨_, rfl⟩
      rw [← hwI] at hkr ⊢
      clear hwI
      have HKr : Hid (Kept (fun _ => True) w1 wI) := hkr
      have x2A : ∀ W, Kept (fun _ => True) wI W → W.cell? ⟨X, 2, none⟩ = some (.slice xa xg.length xc) := fun W c => (HF1.out.kept (HKr.out.trans c) trivial).cell.2.2.1
      have x2I := x2A wI (Kept.refl _ _)
      by_cases hlt : k < xg.length
      · obtain ⟨bg, og, rfl, hbg, hcg⟩ := HGx.out (by omega)
        have cg : ∀ W, Kept (fun _ => True) wI W → W.cell? ⟨bg, og + k, none⟩ = some (.int .i64 (xg[k] : Nat)) := fun W c => (kept_cell (hkr.trans c) hbg trivial).trans (hcg k hlt)
        have g0 : ∀ W, Kept (fun _ => True) wI W → W.cell? ⟨bc, oc + i * 2, none⟩ = some (.int .i64 gg) := fun W c => HG0.out W ((K1.out.trans HKr.out).trans c)
        have HTK : Hid ((xg.take (k + 1)).any (fun y => decide ((y : Int) = gg)) = ((xg.take k).any (fun y => decide ((y : Int) = gg)) || decide ((xg[k] : Int) = gg))) := by
          show _ = _
          rw [List.take_succ_eq_append_getElem hlt, List.any_append]
          simp
        have HI : Hid (k < xg.length) := hlt
        have l0 : (0 : Int) ≤ (k : Int) := by omega
        have l1 : (k : Int) < (xg.length : Int) := by omega
        clear hcg hbg hk hkr
        generalize xg[k] = y at *
        obtain ⟨bo, hbo⟩ : ∃ bo, bo = (xg.take k).any fun y => decide ((y : Int) = gg) := ⟨_, rfl⟩
        rw [← hbo]
        have HBO : Hid (bo = (xg.take k).any fun y => decide ((y : Int) = gg)) := hbo
        clear hbo
        cases bo with
        | true =>
          go_wp2_with fail
          refine Gz.begin (fun W => Kept (fun _ => True) wI W) (fun _ => false) (by kernel_rfl) ?_
          refine Gz.tk (i := 0) (oi := ⟨some 112, .move (.tmp 15), 4, _, _, none⟩) (v := ?_) rfl (by kernel_rfl) (fun _ _ _ h => h) (Or.inl ⟨by rfl, ?hy0⟩) (Kept.refl _ _).drew ?_
          case hy0 => (intro W hS; (try dsimp only at hS); go_simp; try with_reducible rfl)
          try simp only [Act.put, lyA, ly0, ly1]
          refine Gz.tk (i := 1) (oi := ⟨some 113, .move (.tmp 112), 4, _, _, none⟩) (v := ?_) rfl (by kernel_rfl) (fun _ _ _ h => h) (Or.inl ⟨by rfl, ?hy1⟩) (Kept.refl _ _).drew ?_
          case hy1 => (intro W hS; (try dsimp only at hS); go_simp; try with_reducible rfl)
          try simp only [Act.put, lyA, ly0, ly1]
          refine Gz.tk (i := 2) (oi := ⟨some 114, .fieldAddr 48 (.tmp 11) 2, 0, _, _, some (1, false)⟩) (v := undef) rfl (by kernel_rfl) (fun _ _ _ h => h) (Or.inr ⟨by rfl, rfl⟩) (Kept.refl _ _).drew ?_
          try simp only [Act.put, lyA, ly0, ly1]
          refine Gz.tk (i := 3) (oi := ⟨some 115, .load 22 (.tmp 114), 22, _, _, some (1, false)⟩) (v := undef) rfl (by kernel_rfl) (fun _ _ _ h => h) (Or.inr ⟨by rfl, rfl⟩) (Kept.refl _ _).drew ?_
          try simp only [Act.put, lyA, ly0, ly1]
          refine Gz.tk (i := 4) (oi := ⟨some 116, .move (.tmp 16), 3, _, _, some (1, false)⟩) (v := undef) rfl (by kernel_rfl) (fun _ _ _ h => h) (Or.inr ⟨by rfl, rfl⟩) (Kept.refl _ _).drew ?_
          try simp only [Act.put, lyA, ly0, ly1]
          refine Gz.tk (i := 5) (oi := ⟨some 117, .indexAddr 22 (.tmp 115) (.tmp 116), 0, _, _, some (1, false)⟩) (v := undef) rfl (by kernel_rfl) (fun _ _ _ h => h) (Or.inr ⟨by rfl, rfl⟩) (Kept.refl _ _).drew ?_
          try simp only [Act.put, lyA, ly0, ly1]
          refine Gz.tk (i := 6) (oi := ⟨some 118, .load 3 (.tmp 117), 3, _, _, some (1, false)⟩) (v := undef) rfl (by kernel_rfl) (fun _ _ _ h => h) (Or.inr ⟨by rfl, rfl⟩) (Kept.refl _ _).drew ?_
          try simp only [Act.put, lyA, ly0, ly1]
          refine Gz.tk (i := 7) (oi := ⟨some 119, .move (.tmp 0), 39, _, _, some (1, false)⟩) (v := undef) rfl (by kernel_rfl) (fun _ _ _ h => h) (Or.inr ⟨by rfl, rfl⟩) (Kept.refl _ _).drew ?_
          try simp only [Act.put, lyA, ly0, ly1]
          refine Gz.tk (i := 8) (oi := ⟨some 120, .move (.tmp 3), 3, _, _, some (1, false)⟩) (v := undef) rfl (by kernel_rfl) (fun _ _ _ h => h) (Or.inr ⟨by rfl, rfl⟩) (Kept.refl _ _).drew ?_
          try simp only [Act.put, lyA, ly0, ly1]
          refine Gz.tk (i := 9) (oi := ⟨some 121, .indexAddr 39 (.tmp 119) (.tmp 120), 0, _, _, some (1, false)⟩) (v := undef) rfl (by kernel_rfl) (fun _ _ _ h => h) (Or.inr ⟨by rfl, rfl⟩) (Kept.refl _ _).drew ?_
          try simp only [Act.put, lyA, ly0, ly1]
          refine Gz.tk (i := 10) (oi := ⟨some 122, .fieldAddr 74 (.tmp 121) 0, 0, _, _, some (1, false)⟩) (v := undef) rfl (by kernel_rfl) (fun _ _ _ h => h) (Or.inr ⟨by rfl, rfl⟩) (Kept.refl _ _).drew ?_
          try simp only [Act.put, lyA, ly0, ly1]
          refine Gz.tk (i := 11) (oi := ⟨some 123, .load 3 (.tmp 122), 3, _, _, some (1, false)⟩) (v := undef) rfl (by kernel_rfl) (fun _ _ _ h => h) (Or.inr ⟨by rfl, rfl⟩) (Kept.refl _ _).drew ?_
          try simp only [Act.put, lyA, ly0, ly1]
          refine Gz.tk (i := 12) (oi := ⟨some 124, .binOp BinOp.eql 3 (.tmp 118) (.tmp 123) 3, 4, _, _, some (1, false)⟩) (v := undef) rfl (by kernel_rfl) (fun _ _ _ h => h) (Or.inr ⟨by rfl, rfl⟩) (Kept.refl _ _).drew ?_
          try simp only [Act.put, lyA, ly0, ly1]
          refine Gz.tk (i := 13) (oi := ⟨some 125, .pick (.tmp 113) (.const (Value.bool true)) (.tmp 124), 4, _, _, none⟩) (v := ?_) rfl (by kernel_rfl) (fun _ _ _ h => h) (Or.inl ⟨by rfl, ?hy13⟩) (Kept.refl _ _).drew ?_
          case hy13 => (intro W hS; (try dsimp only at hS); go_simp; try with_reducible rfl)
          try simp only [Act.put, lyA, ly0, ly1]
          refine Gz.tk (i := 14) (oi := ⟨some 15, .assign (.tmp 125), 4, _, _, none⟩) (v := ?_) rfl (by kernel_rfl) (fun _ _ _ h => h) (Or.inl ⟨by rfl, ?hy14⟩) (Kept.refl _ _).drew ?_
          case hy14 => (intro W hS; (try dsimp only at hS); go_simp; try with_reducible rfl)
          try simp only [Act.put, lyA, ly0, ly1]
          refine Gz.done (by kernel_rfl) ?_ _
          go_wp2_with fail
          go_roundw
          case rel => exact ⟨k + 1, by have := HI.out; omega, by go_num, by rw [HTK.out, ← HBO.out]; rfl, HKr.out.trans (Kept.refl _ _).drew⟩
          case measure => have := HI.out; simp [intOf]; omega
        | false =>
          by_cases he : (y : Int) = gg
          · have heb : ((y : Int) == gg) = true := by rw [he]; simp
            have hed : decide ((y : Int) = gg) = true := decide_eq_true he
            have HTK2 : Hid ((xg.take (k + 1)).any (fun y => decide ((y : Int) = gg)) = true) := by show _ = _; rw [HTK.out, ← HBO.out, hed]; rfl
            clear he
            go_wp2_with fail
            refine Gz.begin (fun W => Kept (fun _ => True) wI W) (fun _ => false) (by kernel_rfl) ?_
            refine Gz.tk (i := 0) (oi := ⟨some 112, .move (.tmp 15), 4, _, _, none⟩) (v := ?_) rfl (by kernel_rfl) (fun _ _ _ h => h) (Or.inl ⟨by rfl, ?hy0⟩) (Kept.refl _ _).drew ?_
            case hy0 => (intro W hS; (try dsimp only at hS); go_simp; try with_reducible rfl)
            try simp only [Act.put, lyA, ly0, ly1]
            refine Gz.tk (i := 1) (oi := ⟨some 113, .move (.tmp 112), 4, _, _, none⟩) (v := ?_) rfl (by kernel_rfl) (fun _ _ _ h => h) (Or.inl ⟨by rfl, ?hy1⟩) (Kept.refl _ _).drew ?_
            case hy1 => (intro W hS; (try dsimp only at hS); go_simp; try with_reducible rfl)
            try simp only [Act.put, lyA, ly0, ly1]
            refine Gz.tk (i := 2) (oi := ⟨some 114, .fieldAddr 48 (.tmp 11) 2, 0, _, _, some (1, false)⟩) (v := ?_) rfl (by kernel_rfl) (fun _ _ _ h => h) (Or.inl ⟨by rfl, ?hy2⟩) (Kept.refl _ _).drew ?_
            case hy2 => (intro W hS; (try dsimp only at hS); go_simp; try with_reducible rfl)
            try simp only [Act.put, lyA, ly0, ly1]
            refine Gz.tk (i := 3) (oi := ⟨some 115, .load 22 (.tmp 114), 22, _, _, some (1, false)⟩) (v := ?_) rfl (by kernel_rfl) (fun _ _ _ h => h) (Or.inl ⟨by rfl, ?hy3⟩) (Kept.refl _ _).drew ?_
            case hy3 => (intro W hS; (try dsimp only at hS); go_simp; try with_reducible rfl)
            try simp only [Act.put, lyA, ly0, ly1]
            refine Gz.tk (i := 4) (oi := ⟨some 116, .move (.tmp 16), 3, _, _, some (1, false)⟩) (v := ?_) rfl (by kernel_rfl) (fun _ _ _ h => h) (Or.inl ⟨by rfl, ?hy4⟩) (Kept.refl _ _).drew ?_
            case hy4 => (intro W hS; (try dsimp only at hS); go_simp; try with_reducible rfl)
            try simp only [Act.put, lyA, ly0, ly1]
            refine Gz.tk (i := 5) (oi := ⟨some 117, .indexAddr 22 (.tmp 115) (.tmp 116), 0, _, _, some (1, false)⟩) (v := ?_) rfl (by kernel_rfl) (fun _ _ _ h => h) (Or.inl ⟨by rfl, ?hy5⟩) (Kept.refl _ _).drew ?_
            case hy5 => (intro W hS; (try dsimp only at hS); go_simp; try with_reducible rfl)
            try simp only [Act.put, lyA, ly0, ly1]
            refine Gz.tk (i := 6) (oi := ⟨some 118, .load 3 (.tmp 117), 3, _, _, some (1, false)⟩) (v := ?_) rfl (by kernel_rfl) (fun _ _ _ h => h) (Or.inl ⟨by rfl, ?hy6⟩) (Kept.refl _ _).drew ?_
            case hy6 => (intro W hS; (try dsimp only at hS); go_simp; try with_reducible rfl)
            try simp only [Act.put, lyA, ly0, ly1]
            refine Gz.tk (i := 7) (oi := ⟨some 119, .move (.tmp 0), 39, _, _, some (1, false)⟩) (v := ?_) rfl (by kernel_rfl) (fun _ _ _ h => h) (Or.inl ⟨by rfl, ?hy7⟩) (Kept.refl _ _).drew ?_
            case hy7 => (intro W hS; (try dsimp only at hS); go_simp; try with_reducible rfl)
            try simp only [Act.put, lyA, ly0, ly1]
            refine Gz.tk (i := 8) (oi := ⟨some 120, .move (.tmp 3), 3, _, _, some (1, false)⟩) (v := ?_) rfl (by kernel_rfl) (fun _ _ _ h => h) (Or.inl ⟨by rfl, ?hy8⟩) (Kept.refl _ _).drew ?_
            case hy8 => (intro W hS; (try dsimp only at hS); go_simp; try with_reducible rfl)
            try simp only [Act.put, lyA, ly0, ly1]
            refine Gz.tk (i := 9) (oi := ⟨some 121, .indexAddr 39 (.tmp 119) (.tmp 120), 0, _, _, some (1, false)⟩) (v := ?_) rfl (by kernel_rfl) (fun _ _ _ h => h) (Or.inl ⟨by rfl, ?hy9⟩) (Kept.refl _ _).drew ?_
            case hy9 => (intro W hS; (try dsimp only at hS); go_simp; try with_reducible rfl)
            try simp only [Act.put, lyA, ly0, ly1]
            refine Gz.tk (i := 10) (oi := ⟨some 122, .fieldAddr 74 (.tmp 121) 0, 0, _, _, some (1, false)⟩) (v := ?_) rfl (by kernel_rfl) (fun _ _ _ h => h) (Or.inl ⟨by rfl, ?hy10⟩) (Kept.refl _ _).drew ?_
            case hy10 => (intro W hS; (try dsimp only at hS); go_simp; try with_reducible rfl)
            try simp only [Act.put, lyA, ly0, ly1]
            refine Gz.tk (i := 11) (oi := ⟨some 123, .load 3 (.tmp 122), 3, _, _, some (1, false)⟩) (v := ?_) rfl (by kernel_rfl) (fun _ _ _ h => h) (Or.inl ⟨by rfl, ?hy11⟩) (Kept.refl _ _).drew ?_
            case hy11 => (intro W hS; (try dsimp only at hS); go_simp; try with_reducible rfl)
            try simp only [Act.put, lyA, ly0, ly1]
            refine Gz.tk (i := 12) (oi := ⟨some 124, .binOp BinOp.eql 3 (.tmp 118) (.tmp 123) 3, 4, _, _, some (1, false)⟩) (v := ?_) rfl (by kernel_rfl) (fun _ _ _ h => h) (Or.inl ⟨by rfl, ?hy12⟩) (Kept.refl _ _).drew ?_
            case hy12 => (intro W hS; (try dsimp only at hS); go_simp; try with_reducible rfl)
            try simp only [Act.put, lyA, ly0, ly1]
            refine Gz.tk (i := 13) (oi := ⟨some 125, .pick (.tmp 113) (.const (Value.bool true)) (.tmp 124), 4, _, _, none⟩) (v := ?_) rfl (by kernel_rfl) (fun _ _ _ h => h) (Or.inl ⟨by rfl, ?hy13⟩) (Kept.refl _ _).drew ?_
            case hy13 => (intro W hS; (try dsimp only at hS); go_simp; try with_reducible rfl)
            try simp only [Act.put, lyA, ly0, ly1]
            refine Gz.tk (i := 14) (oi := ⟨some 15, .assign (.tmp 125), 4, _, _, none⟩) (v := ?_) rfl (by kernel_rfl) (fun _ _ _ h => h) (Or.inl ⟨by rfl, ?hy14⟩) (Kept.refl _ _).drew ?_
            case hy14 => (intro W hS; (try dsimp only at hS); go_simp; try with_reducible rfl)
            try simp only [Act.put, lyA, ly0, ly1]
            refine Gz.done (by kernel_rfl) ?_ _
            go_wp2_with fail
            go_roundw
            case rel => exact ⟨k + 1, by have := HI.out; omega, by go_num, by rw [HTK2.out], HKr.out.trans (Kept.refl _ _).drew⟩
            case measure => have := HI.out; simp [intOf]; omega
          · have heb : ((y : Int) == gg) = false := beq_eq_false_iff_ne.2 he
            have hed : decide ((y : Int) = gg) = false := decide_eq_false he
            have HTK2 : Hid ((xg.take (k + 1)).any (fun y => decide ((y : Int) = gg)) = false) := by show _ = _; rw [HTK.out, ← HBO.out, hed]; rfl
            clear he
            go_wp2_with fail
            refine Gz.begin (fun W => Kept (fun _ => True) wI W) (fun _ => false) (by kernel_rfl) ?_
            refine Gz.tk (i := 0) (oi := ⟨some 112, .move (.tmp 15), 4, _, _, none⟩) (v := ?_) rfl (by kernel_rfl) (fun _ _ _ h => h) (Or.inl ⟨by rfl, ?hy0⟩) (Kept.refl _ _).drew ?_
            case hy0 => (intro W hS; (try dsimp only at hS); go_simp; try with_reducible rfl)
            try simp only [Act.put, lyA, ly0, ly1]
            refine Gz.tk (i := 1) (oi := ⟨some 113, .move (.tmp 112), 4, _, _, none⟩) (v := ?_) rfl (by kernel_rfl) (fun _ _ _ h => h) (Or.inl ⟨by rfl, ?hy1⟩) (Kept.refl _ _).drew ?_
            case hy1 => (intro W hS; (try dsimp only at hS); go_simp; try with_reducible rfl)
            try simp only [Act.put, lyA, ly0, ly1]
            refine Gz.tk (i := 2) (oi := ⟨some 114, .fieldAddr 48 (.tmp 11) 2, 0, _, _, some (1, false)⟩) (v := ?_) rfl (by kernel_rfl) (fun _ _ _ h => h) (Or.inl ⟨by rfl, ?hy2⟩) (Kept.refl _ _).drew ?_
            case hy2 => (intro W hS; (try dsimp only at hS); go_simp; try with_reducible rfl)
            try simp only [Act.put, lyA, ly0, ly1]
            refine Gz.tk (i := 3) (oi := ⟨some 115, .load 22 (.tmp 114), 22, _, _, some (1, false)⟩) (v := ?_) rfl (by kernel_rfl) (fun _ _ _ h => h) (Or.inl ⟨by rfl, ?hy3⟩) (Kept.refl _ _).drew ?_
            case hy3 => (intro W hS; (try dsimp only at hS); go_simp; try with_reducible rfl)
            try simp only [Act.put, lyA, ly0, ly1]
            refine Gz.tk (i := 4) (oi := ⟨some 116, .move (.tmp 16), 3, _, _, some (1, false)⟩) (v := ?_) rfl (by kernel_rfl) (fun _ _ _ h => h) (Or.inl ⟨by rfl, ?hy4⟩) (Kept.refl _ _).drew ?_
            case hy4 => (intro W hS; (try dsimp only at hS); go_simp; try with_reducible rfl)
            try simp only [Act.put, lyA, ly0, ly1]
            refine Gz.tk (i := 5) (oi := ⟨some 117, .indexAddr 22 (.tmp 115) (.tmp 116), 0, _, _, some (1, false)⟩) (v := ?_) rfl (by kernel_rfl) (fun _ _ _ h => h) (Or.inl ⟨by rfl, ?hy5⟩) (Kept.refl _ _).drew ?_
            case hy5 => (intro W hS; (try dsimp only at hS); go_simp; try with_reducible rfl)
            try simp only [Act.put, lyA, ly0, ly1]
            refine Gz.tk (i := 6) (oi := ⟨some 118, .load 3 (.tmp 117), 3, _, _, some (1, false)⟩) (v := ?_) rfl (by kernel_rfl) (fun _ _ _ h => h) (Or.inl ⟨by rfl, ?hy6⟩) (Kept.refl _ _).drew ?_
            case hy6 => (intro W hS; (try dsimp only at hS); go_simp; try with_reducible rfl)
            try simp only [Act.put, lyA, ly0, ly1]
            refine Gz.tk (i := 7) (oi := ⟨some 119, .move (.tmp 0), 39, _, _, some (1, false)⟩) (v := ?_) rfl (by kernel_rfl) (fun _ _ _ h => h) (Or.inl ⟨by rfl, ?hy7⟩) (Kept.refl _ _).drew ?_
            case hy7 => (intro W hS; (try dsimp only at hS); go_simp; try with_reducible rfl)
            try simp only [Act.put, lyA, ly0, ly1]
            refine Gz.tk (i := 8) (oi := ⟨some 120, .move (.tmp 3), 3, _, _, some (1, false)⟩) (v := ?_) rfl (by kernel_rfl) (fun _ _ _ h => h) (Or.inl ⟨by rfl, ?hy8⟩) (Kept.refl _ _).drew ?_
            case hy8 => (intro W hS; (try dsimp only at hS); go_simp; try with_reducible rfl)
            try simp only [Act.put, lyA, ly0, ly1]
            refine Gz.tk (i := 9) (oi := ⟨some 121, .indexAddr 39 (.tmp 119) (.tmp 120), 0, _, _, some (1, false)⟩) (v := ?_) rfl (by kernel_rfl) (fun _ _ _ h => h) (Or.inl ⟨by rfl, ?hy9⟩) (Kept.refl _ _).drew ?_
            case hy9 => (intro W hS; (try dsimp only at hS); go_simp; try with_reducible rfl)
            try simp only [Act.put, lyA, ly0, ly1]
            refine Gz.tk (i := 10) (oi := ⟨some 122, .fieldAddr 74 (.tmp 121) 0, 0, _, _, some (1, false)⟩) (v := ?_) rfl (by kernel_rfl) (fun _ _ _ h => h) (Or.inl ⟨by rfl, ?hy10⟩) (Kept.refl _ _).drew ?_
            case hy10 => (intro W hS; (try dsimp only at hS); go_simp; try with_reducible rfl)
            try simp only [Act.put, lyA, ly0, ly1]
            refine Gz.tk (i := 11) (oi := ⟨some 123, .load 3 (.tmp 122), 3, _, _, some (1, false)⟩) (v := ?_) rfl (by kernel_rfl) (fun _ _ _ h => h) (Or.inl ⟨by rfl, ?hy11⟩) (Kept.refl _ _).drew ?_
            case hy11 => (intro W hS; (try dsimp only at hS); go_simp; try with_reducible rfl)
            try simp only [Act.put, lyA, ly0, ly1]
            refine Gz.tk (i := 12) (oi := ⟨some 124, .binOp BinOp.eql 3 (.tmp 118) (.tmp 123) 3, 4, _, _, some (1, false)⟩) (v := ?_) rfl (by kernel_rfl) (fun _ _ _ h => h) (Or.inl ⟨by rfl, ?hy12⟩) (Kept.refl _ _).drew ?_
            case hy12 => (intro W hS; (try dsimp only at hS); go_simp; try with_reducible rfl)
            try simp only [Act.put, lyA, ly0, ly1]
            refine Gz.tk (i := 13) (oi := ⟨some 125, .pick (.tmp 113) (.const (Value.bool true)) (.tmp 124), 4, _, _, none⟩) (v := ?_) rfl (by kernel_rfl) (fun _ _ _ h => h) (Or.inl ⟨by rfl, ?hy13⟩) (Kept.refl _ _).drew ?_
            case hy13 => (intro W hS; (try dsimp only at hS); go_simp; try with_reducible rfl)
            try simp only [Act.put, lyA, ly0, ly1]
            refine Gz.tk (i := 14) (oi := ⟨some 15, .assign (.tmp 125), 4, _, _, none⟩) (v := ?_) rfl (by kernel_rfl) (fun _ _ _ h => h) (Or.inl ⟨by rfl, ?hy14⟩) (Kept.refl _ _).drew ?_
            case hy14 => (intro W hS; (try dsimp only at hS); go_simp; try with_reducible rfl)
            try simp only [Act.put, lyA, ly0, ly1]
            refine Gz.done (by kernel_rfl) ?_ _
            go_wp2_with fail
            go_roundw
            case rel => exact ⟨k + 1, by have := HI.out; omega, by go_num, by rw [HTK2.out], HKr.out.trans (Kept.refl _ _).drew⟩
            case measure => have := HI.out; simp [intOf]; omega
      · obtain rfl : k = xg.length := by omega
        have l1 : ¬ ((xg.length : Nat) : Int) < (xg.length : Int) := by omega
        rw [List.take_of_length_le (Nat.le_refl _)]
        obtain ⟨bo, hbo⟩ : ∃ bo, bo = xg.any fun y => decide ((y : Int) = gg) := ⟨_, rfl⟩
        rw [← hbo]
        have HBO : Hid (bo = xg.any fun y => decide ((y : Int) = gg)) := hbo
        have HX1 : Hid (Rkv wI (some ⟨b, off, none⟩) xs) := HX1.out.all hkr
        have HGx : Hid (Gv wI xa xg) := HGx.out.all hkr
        have HF1 : Hid (Four4 wI X 48 (.int .i64 (xk : Nat)) (.string ⟨xt.toArray⟩) (.slice xa xg.length xc) (.string ⟨xb.toArray⟩)) := HF1.out.kept hkr trivial
        have K1 : Hid (Kept (fun _ => True) w wI) := K1.out.trans hkr
        obtain ⟨wM, hwM⟩ : ∃ y, y = wI := ⟨_, rfl⟩
        rw [← hwM] at HX1 HGx HF1 K1 ⊢
        obtain ⟨x0, x1, x2, _⟩ := HF1.out.cell
        clear hbo hlt hk hkr HKr x2I x2A hwM
        cases bo with
        | false =>
          go_wp2_with fail
          go_ret
          exact ⟨true, rfl, ⟨(fun _ => .inl ⟨HX3.out, by first | exact HBO.out.symm | simpa using HBO.out.symm⟩), fun _ => rfl⟩, K1.out⟩
        | true =>
          go_wp2_with fail
          clear ex3
          go_loopw [17] (fun t wr => ∃ k : Nat, k ≤ xs.length ∧ t = .int .i64 k ∧ ¬ Beside (hit7 ⟨xk, xt, xg, xb⟩) xs i k ∧ Kept (fun _ => True) wM wr) (fun t _ => xs.length - (intOf t).toNat)
          case atStart => exact ⟨0, Nat.zero_le _, rfl, fun ⟨j, hj, _⟩ => by omega, Kept.refl _ _⟩
          case round =>
            obtain ⟨k, hk, rfl, hno, hkr⟩ := hrel
            obtain ⟨wI, hwI⟩ : ∃ y, y = wr := ⟨_, rfl⟩
            rw [← hwI] at hkr ⊢
            clear hwI
            have HKr : Hid (Kept (fun _ => True) wM wI) := hkr
            have HNB : Hid (¬ Beside (hit7 ⟨xk, xt, xg, xb⟩) xs i k) := hno
            clear hno
            by_cases hlt : k < xs.length
            · obtain ⟨b', off', e', cL1, cK⟩ := (HX1.out.all hkr).two k hlt
              clear cL1
              injection e' with e'
              injection e' with e1' e2'
              subst e1' e2'
              have HRU : Hid (Vw recN wI xs[k].aR xs[k].us) := (HX1.out.all hkr).us _ (List.getElem_mem hlt)
              have HRG : Hid (∀ p ∈ xs[k].us, Gv wI p.2.1 p.1.gs) := (HX1.out.all hkr).gs _ (List.getElem_mem hlt)
              have HSL : Hid (xs[k].us.length ≤ 100000) := HSZ.out.2 _ (List.getElem_mem hlt)
              have HB1 : Hid ((k ≠ i → ∀ p ∈ xs[k].us, hit7 ⟨xk, xt, xg, xb⟩ p.1 = false) → ¬ Beside (hit7 ⟨xk, xt, xg, xb⟩) xs i (k + 1)) := fun hh ⟨j, hj, hj2, hji, p, hp, hf⟩ => by
                by_cases hjk : j = k
                · subst hjk
                  rw [hh hji p hp] at hf
                  cases hf
                · exact HNB.out ⟨j, by omega, hj2, hji, p, hp, hf⟩
              have HB2 : Hid (k ≠ i → ∀ p ∈ xs[k].us, hit7 ⟨xk, xt, xg, xb⟩ p.1 = true → Beside (hit7 ⟨xk, xt, xg, xb⟩) xs i xs.length) := fun hki p hp hf => ⟨k, hlt, hlt, hki, p, hp, hf⟩
              have HKl : Hid (k < xs.length) := hlt
              have l0 : (0 : Int) ≤ (k : Int) := by omega
              have l1 : (k : Int) < (xs.length : Int) := by omega
              have l3 : k < xs.length := hlt
              have l4 : xs.length ≤ 1000 := HSZ.out.1
              generalize xs[k].us = ys at *
              generalize xs[k].aR = aK at *
              generalize xs[k].cR = cK' at *
              clear hk hlt hkr
              go_wp2_with fail
              go_loopw [18] (fun t wr => ∃ n : Nat, n ≤ ys.length ∧ t = .int .i64 n ∧ (k ≠ i → (ys.take n).any (fun p => hit7 ⟨xk, xt, xg, xb⟩ p.1) = false) ∧ Kept (fun _ => True) wI wr) (fun t _ => ys.length - (intOf t).toNat)
              case atStart => exact ⟨0, Nat.zero_le _, rfl, fun _ => rfl, Kept.refl _ _⟩
              case round =>
                obtain ⟨n, hn, rfl, hany, hkn⟩ := hrel
                obtain ⟨wN, hwN⟩ : ∃ y, y = wr := ⟨_, rfl⟩
                rw [← hwN] at hkn ⊢
                clear hwN
                have HKn : Hid (Kept (fun _ => True) wI wN) := hkn
                have cKn := cK wN hkn
                have HANY : Hid (k ≠ i → (ys.take n).any (fun p => hit7 ⟨xk, xt, xg, xb⟩ p.1) = false) := hany
                clear hany
                by_cases hln : n < ys.length
                · have m1 : (n : Int) < (ys.length : Int) := by omega
                  by_cases hki : k = i
                  · have HKI : Hid (k = i) := hki
                    have hne : ((k : Int) != (i : Int)) = false := bne_eq_false_iff_eq.2 (by omega)
                    have HNX : Hid (¬ Beside (hit7 ⟨xk, xt, xg, xb⟩) xs i (k + 1)) := HB1.out (fun q => absurd hki q)
                    clear hki hln hn
                    go_wp2_with fail
                    go_roundw
                    case rel => exact ⟨k + 1, by have := HKl.out; omega, by go_num, HNX.out, HKr.out.trans hkn⟩
                    case measure => have := HKl.out; simp [intOf]; omega
                  · have HKI : Hid (k ≠ i) := hki
                    have hne : ((k : Int) != (i : Int)) = true := bne_iff_ne.2 (by omega)
                    obtain ⟨b3, off3, hb3, p0, p1, p2, p3⟩ := rec_cells HRU.out n hln
                    have y0 := p0 wN hkn
                    have y1 := p1 wN hkn
                    have y2 := p2 wN hkn
                    have y3 := p3 wN hkn
                    rw [hb3] at cKn
                    have HGy : Hid (Gv wN (ys[n]).2.1 (ys[n]).1.gs) := (HRG.out _ (List.getElem_mem hln)).all hkn
                    have HNo : Hid (hit7 ⟨xk, xt, xg, xb⟩ ys[n].1 = false → (ys.take (n + 1)).any (fun p => hit7 ⟨xk, xt, xg, xb⟩ p.1) = false) := fun hf => by
                      rw [List.take_succ_eq_append_getElem hln, List.any_append, HANY.out hki]
                      simp [hf]
                    have HY : Hid (hit7 ⟨xk, xt, xg, xb⟩ ys[n].1 = true → Beside (hit7 ⟨xk, xt, xg, xb⟩) xs i xs.length) := fun hf => HB2.out hki _ (List.getElem_mem hln) hf
                    have HI : Hid (n < ys.length) := hln
                    have n0 : (0 : Int) ≤ (n : Int) := by omega
                    have n3 : n < ys.length := hln
                    have hsl : ys.length ≤ 100000 := HSL.out
                    clear HRU HRG
                    generalize hy : ys[n] = u at *
                    clear hy
                    obtain ⟨⟨yk, yt, yg, yb⟩, ya, yc⟩ := u
                    simp only at y0 y1 y2 y3 HNo HY HGy
                    obtain ⟨w3, hw3⟩ : ∃ y, y = wN.alloc (.cells #[.int .i64 (yk : Nat), .string ⟨yt.toArray⟩, .slice ya yg.length yc, .string ⟨yb.toArray⟩] 48) := ⟨_, rfl⟩
                    have k3 : Kept (fun _ => True) wN w3 := by rw [hw3]; exact (Kept.refl _ _).alloc _
                    have F3 : Four4 w3 wN.heap.size 48 (.int .i64 (yk : Nat)) (.string ⟨yt.toArray⟩) (.slice ya yg.length yc) (.string ⟨yb.toArray⟩) := by rw [hw3]; exact heap_alloc_new wN _
                    have K3 : Hid (Kept (fun _ => True) wI w3) := HKn.out.trans k3
                    have HGy3 : Hid (Gv w3 ya yg) := HGy.out.all k3
                    have HGx3 : Hid (Gv w3 xa xg) := HGx.out.all (HKr.out.trans K3.out)
                    clear p0 p1 p2 p3 hkn hn hln hki hb3 HGy
                    go_upto_region 33 with fail
                    rw [← hw3]
                    clear hw3 y0 y1 y2 y3 cKn
                    generalize wN.heap.size = Y at *
                    obtain ⟨z0, z1, z2, _⟩ := F3.cell
                    obtain ⟨x0, x1, x2, _⟩ := (HF1.out.kept (HKr.out.trans K3.out) trivial).cell
                    clear F3 k3
                    by_cases ht : yt = xt
                    · rw [ht] at z1
                      by_cases h3 : yk = 3
                      · rw [h3] at z0
                        by_cases hx : xk = 3
                        · rw [hx] at x0
                          by_cases hs : xg = yg
                          · have hs2 : decide (xg = yg) = true := decide_eq_true hs
                            have cs8 := rsame_any (c := xc) (d := yc) HGx3.out HGy3.out (by have := HXl.out; omega)
                            rw [hs2] at cs8
                            clear hs2
                            have HT : Hid (hit7 ⟨xk, xt, xg, xb⟩ ⟨yk, yt, yg, yb⟩ = false) := by show _ = _; unfold hit7; simp [hs]
                            clear hs hx h3
                            go_wp2_with (go_at_call 88; (with_reducible refine Calls.mono cs8 ?_); rintro e w8 ⟨rfl, k8⟩)
                            go_roundw
                            case rel =>
                              first
                                | exact ⟨n + 1, by have := HI.out; omega, by go_num, fun _ => HNo.out HT.out, K3.out.trans k8⟩
                                | (repeat apply Exists.intro
                                   refine ⟨⟨n + 1, ?_, ?_, fun _ => HNo.out HT.out, K3.out.trans k8⟩, rfl⟩
                                   · have := HI.out; omega
                                   · go_num)
                            case measure => have := HI.out; simp [intOf]; omega
                          · have hs2 : decide (xg = yg) = false := decide_eq_false hs
                            have cs8 := rsame_any (c := xc) (d := yc) HGx3.out HGy3.out (by have := HXl.out; omega)
                            rw [hs2] at cs8
                            clear hs2
                            have HT : Hid (hit7 ⟨xk, xt, xg, xb⟩ ⟨yk, yt, yg, yb⟩ = true) := by show _ = _; unfold hit7; simp [ht, h3, hx, hs]
                            clear hs
                            go_wp2_with (go_at_call 88; (with_reducible refine Calls.mono cs8 ?_); rintro e w8 ⟨rfl, k8⟩)
                            go_ret
                            exact ⟨true, rfl, ⟨(fun _ => .inr (HY.out HT.out)), fun _ => rfl⟩, ((K1.out.trans (HKr.out)).trans K3.out).trans k8⟩
                        · have ex : ((xk : Int) == 3) = false := beq_eq_false_iff_ne.2 (by omega)
                          have HT : Hid (hit7 ⟨xk, xt, xg, xb⟩ ⟨yk, yt, yg, yb⟩ = false) := by show _ = _; unfold hit7; simp [hx]
                          go_wp2_with fail
                          go_roundw
                          case rel =>
                            first
                              | exact ⟨n + 1, by have := HI.out; omega, by go_num, fun _ => HNo.out HT.out, K3.out⟩
                              | (repeat apply Exists.intro
                                 refine ⟨⟨n + 1, ?_, ?_, fun _ => HNo.out HT.out, K3.out⟩, rfl⟩
                                 · have := HI.out; omega
                                 · go_num)
                          case measure => have := HI.out; simp [intOf]; omega
                      · by_cases h4 : yk = 4
                        · rw [h4] at z0
                          by_cases hx : xk = 3
                          · rw [hx] at x0
                            have HT : Hid (hit7 ⟨xk, xt, xg, xb⟩ ⟨yk, yt, yg, yb⟩ = false) := by show _ = _; unfold hit7; simp [h4]
                            go_wp2_with fail
                            go_roundw
                            case rel =>
                              first
                                | exact ⟨n + 1, by have := HI.out; omega, by go_num, fun _ => HNo.out HT.out, K3.out⟩
                                | (repeat apply Exists.intro
                                   refine ⟨⟨n + 1, ?_, ?_, fun _ => HNo.out HT.out, K3.out⟩, rfl⟩
                                   · have := HI.out; omega
                                   · go_num)
                            case measure => have := HI.out; simp [intOf]; omega
                          · have ex : ((xk : Int) == 3) = false := beq_eq_false_iff_ne.2 (by omega)
                            have HT : Hid (hit7 ⟨xk, xt, xg, xb⟩ ⟨yk, yt, yg, yb⟩ = false) := by show _ = _; unfold hit7; simp [hx]
                            go_wp2_with fail
                            go_roundw
                            case rel =>
                              first
                                | exact ⟨n + 1, by have := HI.out; omega, by go_num, fun _ => HNo.out HT.out, K3.out⟩
                                | (repeat apply Exists.intro
                                   refine ⟨⟨n + 1, ?_, ?_, fun _ => HNo.out HT.out, K3.out⟩, rfl⟩
                                   · have := HI.out; omega
                                   · go_num)
                            case measure => have := HI.out; simp [intOf]; omega
                        · have e3 : ((yk : Int) != 3) = true := bne_iff_ne.2 (by omega)
                          have e4 : ((yk : Int) != 4) = true := bne_iff_ne.2 (by omega)
                          have HT : Hid (hit7 ⟨xk, xt, xg, xb⟩ ⟨yk, yt, yg, yb⟩ = false) := by show _ = _; unfold hit7; simp [h3]
                          go_wp2_with fail
                          go_roundw
                          case rel =>
                            first
                              | exact ⟨n + 1, by have := HI.out; omega, by go_num, fun _ => HNo.out HT.out, K3.out⟩
                              | (repeat apply Exists.intro
                                 refine ⟨⟨n + 1, ?_, ?_, fun _ => HNo.out HT.out, K3.out⟩, rfl⟩
                                 · have := HI.out; omega
                                 · go_num)
                          case measure => have := HI.out; simp [intOf]; omega
                    · have h1 : (yt == xt) = false := by simp [ht]
                      have h2 : decide (yt = xt) = false := by simp [ht]
                      have HT : Hid (hit7 ⟨xk, xt, xg, xb⟩ ⟨yk, yt, yg, yb⟩ = false) := by show _ = _; unfold hit7; simp [ht]
                      go_wp2_with fail
                      go_roundw
                      case rel => exact ⟨n + 1, by have := HI.out; omega, by go_num, fun _ => HNo.out HT.out, K3.out⟩
                      case measure => have := HI.out; simp [intOf]; omega
                · have m1 : ¬ (n : Int) < (ys.length : Int) := by omega
                  have HNX : Hid (¬ Beside (hit7 ⟨xk, xt, xg, xb⟩) xs i (k + 1)) := HB1.out (fun q p hp => by
                    have := HANY.out q
                    rw [List.take_of_length_le (by omega)] at this
                    have h2 := List.any_eq_false.1 this p hp
                    simpa using h2)
                  clear hln hn
                  go_wp2_with fail
                  go_roundw
                  case rel => exact ⟨k + 1, by have := HKl.out; omega, by go_num, HNX.out, HKr.out.trans hkn⟩
                  case measure => have := HKl.out; simp [intOf]; omega
            · obtain rfl : k = xs.length := by omega
              have l1 : ¬ ((xs.length : Nat) : Int) < (xs.length : Int) := by omega
              have HKK : Hid (Kept (fun _ => True) w wI) := K1.out.trans (hkr)
              clear hlt hk hkr
              go_wp2_with fail
              go_ret
              exact ⟨false, rfl, ⟨(fun h => by cases h), fun h => h.elim (fun q => by obtain ⟨x, hx, he⟩ := List.any_eq_true.1 HBO.out.symm; exact absurd (of_decide_eq_true he) (q.2 x hx)) (fun q => absurd q HNB.out)⟩, HKK.out⟩
  · have ex3 : ((xk : Int) == 3) = false := beq_eq_false_iff_ne.2 (by omega)
    have HX3 : Hid (¬ xk = 3) := hx3
    clear hx3
    go_wp2_with fail
    go_loopw [17] (fun t wr => ∃ k : Nat, k ≤ xs.length ∧ t = .int .i64 k ∧ ¬ Beside (hit7 ⟨xk, xt, xg, xb⟩) xs i k ∧ Kept (fun _ => True) w1 wr) (fun t _ => xs.length - (intOf t).toNat)
    case atStart => exact ⟨0, Nat.zero_le _, rfl, fun ⟨j, hj, _⟩ => by omega, Kept.refl _ _⟩
    case round =>
      obtain ⟨k, hk, rfl, hno, hkr⟩ := hrel
      obtain ⟨wI, hwI⟩ : ∃ y, y = wr := ⟨_, rfl⟩
      rw [← hwI] at hkr ⊢
      clear hwI
      have HKr : Hid (Kept (fun _ => True) w1 wI) := hkr
      have HNB : Hid (¬ Beside (hit7 ⟨xk, xt, xg, xb⟩) xs i k) := hno
      clear hno
      by_cases hlt : k < xs.length
      · obtain ⟨b', off', e', cL1, cK⟩ := (HX1.out.all hkr).two k hlt
        clear cL1
        injection e' with e'
        injection e' with e1' e2'
        subst e1' e2'
        have HRU : Hid (Vw recN wI xs[k].aR xs[k].us) := (HX1.out.all hkr).us _ (List.getElem_mem hlt)
        have HRG : Hid (∀ p ∈ xs[k].us, Gv wI p.2.1 p.1.gs) := (HX1.out.all hkr).gs _ (List.getElem_mem hlt)
        have HSL : Hid (xs[k].us.length ≤ 100000) := HSZ.out.2 _ (List.getElem_mem hlt)
        have HB1 : Hid ((k ≠ i → ∀ p ∈ xs[k].us, hit7 ⟨xk, xt, xg, xb⟩ p.1 = false) → ¬ Beside (hit7 ⟨xk, xt, xg, xb⟩) xs i (k + 1)) := fun hh ⟨j, hj, hj2, hji, p, hp, hf⟩ => by
          by_cases hjk : j = k
          · subst hjk
            rw [hh hji p hp] at hf
            cases hf
          · exact HNB.out ⟨j, by omega, hj2, hji, p, hp, hf⟩
        have HB2 : Hid (k ≠ i → ∀ p ∈ xs[k].us, hit7 ⟨xk, xt, xg, xb⟩ p.1 = true → Beside (hit7 ⟨xk, xt, xg, xb⟩) xs i xs.length) := fun hki p hp hf => ⟨k, hlt, hlt, hki, p, hp, hf⟩
        have HKl : Hid (k < xs.length) := hlt
        have l0 : (0 : Int) ≤ (k : Int) := by omega
        have l1 : (k : Int) < (xs.length : Int) := by omega
        have l3 : k < xs.length := hlt
        have l4 : xs.length ≤ 1000 := HSZ.out.1
        generalize xs[k].us = ys at *
        generalize xs[k].aR = aK at *
        generalize xs[k].cR = cK' at *
        clear hk hlt hkr
        go_wp2_with fail
        go_loopw [18] (fun t wr => ∃ n : Nat, n ≤ ys.length ∧ t = .int .i64 n ∧ (k ≠ i → (ys.take n).any (fun p => hit7 ⟨xk, xt, xg, xb⟩ p.1) = false) ∧ Kept (fun _ => True) wI wr) (fun t _ => ys.length - (intOf t).toNat)
        case atStart => exact ⟨0, Nat.zero_le _, rfl, fun _ => rfl, Kept.refl _ _⟩
        case round =>
          obtain ⟨n, hn, rfl, hany, hkn⟩ := hrel
          obtain ⟨wN, hwN⟩ : ∃ y, y = wr := ⟨_, rfl⟩
          rw [← hwN] at hkn ⊢
          clear hwN
          have HKn : Hid (Kept (fun _ => True) wI wN) := hkn
          have cKn := cK wN hkn
          have HANY : Hid (k ≠ i → (ys.take n).any (fun p => hit7 ⟨xk, xt, xg, xb⟩ p.1) = false) := hany
          clear hany
          by_cases hln : n < ys.length
          · have m1 : (n : Int) < (ys.length : Int) := by omega
            by_cases hki : k = i
            · have HKI : Hid (k = i) := hki
              have hne : ((k : Int) != (i : Int)) = false := bne_eq_false_iff_eq.2 (by omega)
              have HNX : Hid (¬ Beside (hit7 ⟨xk, xt, xg, xb⟩) xs i (k + 1)) := HB1.out (fun q => absurd hki q)
              clear hki hln hn
              go_wp2_with fail
              go_roundw
              case rel => exact ⟨k + 1, by have := HKl.out; omega, by go_num, HNX.out, HKr.out.trans hkn⟩
              case measure => have := HKl.out; simp [intOf]; omega
            · have HKI : Hid (k ≠ i) := hki
              have hne : ((k : Int) != (i : Int)) = true := bne_iff_ne.2 (by omega)
              obtain ⟨b3, off3, hb3, p0, p1, p2, p3⟩ := rec_cells HRU.out n hln
              have y0 := p0 wN hkn
              have y1 := p1 wN hkn
              have y2 := p2 wN hkn
              have y3 := p3 wN hkn
              rw [hb3] at cKn
              have HGy : Hid (Gv wN (ys[n]).2.1 (ys[n]).1.gs) := (HRG.out _ (List.getElem_mem hln)).all hkn
              have HNo : Hid (hit7 ⟨xk, xt, xg, xb⟩ ys[n].1 = false → (ys.take (n + 1)).any (fun p => hit7 ⟨xk, xt, xg, xb⟩ p.1) = false) := fun hf => by
                rw [List.take_succ_eq_append_getElem hln, List.any_append, HANY.out hki]
                simp [hf]
              have HY : Hid (hit7 ⟨xk, xt, xg, xb⟩ ys[n].1 = true → Beside (hit7 ⟨xk, xt, xg, xb⟩) xs i xs.length) := fun hf => HB2.out hki _ (List.getElem_mem hln) hf
              have HI : Hid (n < ys.length) := hln
              have n0 : (0 : Int) ≤ (n : Int) := by omega
              have n3 : n < ys.length := hln
              have hsl : ys.length ≤ 100000 := HSL.out
              clear HRU HRG
              generalize hy : ys[n] = u at *
              clear hy
              obtain ⟨⟨yk, yt, yg, yb⟩, ya, yc⟩ := u
              simp only at y0 y1 y2 y3 HNo HY HGy
              obtain ⟨w3, hw3⟩ : ∃ y, y = wN.alloc (.cells #[.int .i64 (yk : Nat), .string ⟨yt.toArray⟩, .slice ya yg.length yc, .string ⟨yb.toArray⟩] 48) := ⟨_, rfl⟩
              have k3 : Kept (fun _ => True) wN w3 := by rw [hw3]; exact (Kept.refl _ _).alloc _
              have F3 : Four4 w3 wN.heap.size 48 (.int .i64 (yk : Nat)) (.string ⟨yt.toArray⟩) (.slice ya yg.length yc) (.string ⟨yb.toArray⟩) := by rw [hw3]; exact heap_alloc_new wN _
              have K3 : Hid (Kept (fun _ => True) wI w3) := HKn.out.trans k3
              have HGy3 : Hid (Gv w3 ya yg) := HGy.out.all k3
              have HGx3 : Hid (Gv w3 xa xg) := HGx.out.all (HKr.out.trans K3.out)
              clear p0 p1 p2 p3 hkn hn hln hki hb3 HGy
              go_upto_region 33 with fail
              rw [← hw3]
              clear hw3 y0 y1 y2 y3 cKn
              generalize wN.heap.size = Y at *
              obtain ⟨z0, z1, z2, _⟩ := F3.cell
              obtain ⟨x0, x1, x2, _⟩ := (HF1.out.kept (HKr.out.trans K3.out) trivial).cell
              clear F3 k3
              by_cases ht : yt = xt
              · rw [ht] at z1
                by_cases h3 : yk = 3
                · rw [h3] at z0
                  by_cases hx : xk = 3
                  · rw [hx] at x0
                    by_cases hs : xg = yg
                    · have hs2 : decide (xg = yg) = true := decide_eq_true hs
                      have cs8 := rsame_any (c := xc) (d := yc) HGx3.out HGy3.out (by have := HXl.out; omega)
                      rw [hs2] at cs8
                      clear hs2
                      have HT : Hid (hit7 ⟨xk, xt, xg, xb⟩ ⟨yk, yt, yg, yb⟩ = false) := by show _ = _; unfold hit7; simp [hs]
                      clear hs hx h3
                      go_wp2_with (go_at_call 88; (with_reducible refine Calls.mono cs8 ?_); rintro e w8 ⟨rfl, k8⟩)
                      go_roundw
                      case rel =>
                        first
                          | exact ⟨n + 1, by have := HI.out; omega, by go_num, fun _ => HNo.out HT.out, K3.out.trans k8⟩
                          | (repeat apply Exists.intro
                             refine ⟨⟨n + 1, ?_, ?_, fun _ => HNo.out HT.out, K3.out.trans k8⟩, rfl⟩
                             · have := HI.out; omega
                             · go_num)
                      case measure => have := HI.out; simp [intOf]; omega
                    · have hs2 : decide (xg = yg) = false := decide_eq_false hs
                      have cs8 := rsame_any (c := xc) (d := yc) HGx3.out HGy3.out (by have := HXl.out; omega)
                      rw [hs2] at cs8
                      clear hs2
                      have HT : Hid (hit7 ⟨xk, xt, xg, xb⟩ ⟨yk, yt, yg, yb⟩ = true) := by show _ = _; unfold hit7; simp [ht, h3, hx, hs]
                      clear hs
                      go_wp2_with (go_at_call 88; (with_reducible refine Calls.mono cs8 ?_); rintro e w8 ⟨rfl, k8⟩)
                      go_ret
                      exact ⟨true, rfl, ⟨(fun _ => .inr (HY.out HT.out)), fun _ => rfl⟩, ((K1.out.trans (HKr.out)).trans K3.out).trans k8⟩
                  · have ex : ((xk : Int) == 3) = false := beq_eq_false_iff_ne.2 (by omega)
                    have HT : Hid (hit7 ⟨xk, xt, xg, xb⟩ ⟨yk, yt, yg, yb⟩ = false) := by show _ = _; unfold hit7; simp [hx]
                    go_wp2_with fail
                    go_roundw
                    case rel =>
                      first
                        | exact ⟨n + 1, by have := HI.out; omega, by go_num, fun _ => HNo.out HT.out, K3.out⟩
                        | (repeat apply Exists.intro
                           refine ⟨⟨n + 1, ?_, ?_, fun _ => HNo.out HT.out, K3.out⟩, rfl⟩
                           · have := HI.out; omega
                           · go_num)
                    case measure => have := HI.out; simp [intOf]; omega
                · by_cases h4 : yk = 4
                  · rw [h4] at z0
                    by_cases hx : xk = 3
                    · rw [hx] at x0
                      have HT : Hid (hit7 ⟨xk, xt, xg, xb⟩ ⟨yk, yt, yg, yb⟩ = false) := by show _ = _; unfold hit7; simp [h4]
                      go_wp2_with fail
                      go_roundw
                      case rel =>
                        first
                          | exact ⟨n + 1, by have := HI.out; omega, by go_num, fun _ => HNo.out HT.out, K3.out⟩
                          | (repeat apply Exists.intro
                             refine ⟨⟨n + 1, ?_, ?_, fun _ => HNo.out HT.out, K3.out⟩, rfl⟩
                             · have := HI.out; omega
                             · go_num)
                      case measure => have := HI.out; simp [intOf]; omega
                    · have ex : ((xk : Int) == 3) = false := beq_eq_false_iff_ne.2 (by omega)
                      have HT : Hid (hit7 ⟨xk, xt, xg, xb⟩ ⟨yk, yt, yg, yb⟩ = false) := by show _ = _; unfold hit7; simp [hx]
                      go_wp2_with fail
                      go_roundw
                      case rel =>
                        first
                          | exact ⟨n + 1, by have := HI.out; omega, by go_num, fun _ => HNo.out HT.out, K3.out⟩
                          | (repeat apply Exists.intro
                             refine ⟨⟨n + 1, ?_, ?_, fun _ => HNo.out HT.out, K3.out⟩, rfl⟩
                             · have := HI.out; omega
                             · go_num)
                      case measure => have := HI.out; simp [intOf]; omega
                  · have e3 : ((yk : Int) != 3) = true := bne_iff_ne.2 (by omega)
                    have e4 : ((yk : Int) != 4) = true := bne_iff_ne.2 (by omega)
                    have HT : Hid (hit7 ⟨xk, xt, xg, xb⟩ ⟨yk, yt, yg, yb⟩ = false) := by show _ = _; unfold hit7; simp [h3]
                    go_wp2_with fail
                    go_roundw
                    case rel =>
                      first
                        | exact ⟨n + 1, by have := HI.out; omega, by go_num, fun _ => HNo.out HT.out, K3.out⟩
                        | (repeat apply Exists.intro
                           refine ⟨⟨n + 1, ?_, ?_, fun _ => HNo.out HT.out, K3.out⟩, rfl⟩
                           · have := HI.out; omega
                           · go_num)
                    case measure => have := HI.out; simp [intOf]; omega
              · have h1 : (yt == xt) = false := by simp [ht]
                have h2 : decide (yt = xt) = false := by simp [ht]
                have HT : Hid (hit7 ⟨xk, xt, xg, xb⟩ ⟨yk, yt, yg, yb⟩ = false) := by show _ = _; unfold hit7; simp [ht]
                go_wp2_with fail
                go_roundw
                case rel => exact ⟨n + 1, by have := HI.out; omega, by go_num, fun _ => HNo.out HT.out, K3.out⟩
                case measure => have := HI.out; simp [intOf]; omega
          · have m1 : ¬ (n : Int) < (ys.length : Int) := by omega
            have HNX : Hid (¬ Beside (hit7 ⟨xk, xt, xg, xb⟩) xs i (k + 1)) := HB1.out (fun q p hp => by
              have := HANY.out q
              rw [List.take_of_length_le (by omega)] at this
              have h2 := List.any_eq_false.1 this p hp
              simpa using h2)
            clear hln hn
            go_wp2_with fail
            go_roundw
            case rel => exact ⟨k + 1, by have := HKl.out; omega, by go_num, HNX.out, HKr.out.trans hkn⟩
            case measure => have := HKl.out; simp [intOf]; omega
      · obtain rfl : k = xs.length := by omega
        have l1 : ¬ ((xs.length : Nat) : Int) < (xs.length : Int) := by omega
        have HKK : Hid (Kept (fun _ => True) w wI) := K1.out.trans (hkr)
        clear hlt hk hkr
        go_wp2_with fail
        go_ret
        exact ⟨false, rfl, ⟨(fun h => by cases h), fun h => h.elim (fun q => absurd q.1 HX3.out) (fun q => absurd q HNB.out)⟩, HKK.out⟩
end Go.Proofs.Ytmcaoimgmgjjiaa
