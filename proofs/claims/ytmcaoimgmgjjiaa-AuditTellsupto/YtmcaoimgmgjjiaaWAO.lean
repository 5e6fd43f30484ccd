/-
  Texts of the proofs, 41 of 52.
-/
import Derived.Test.YtmcaoimgmgjjiaaWAN
namespace Go.Proofs.Ytmcaoimgmgjjiaa
open Go.RowKit Go.Maps Go.Sort

set_option maxRecDepth 100000 in
set_option maxHeartbeats 4000000 in
theorem rsame_any {w : World} {a b : Option Addr} {c d : Nat} {xs ys : List Nat} (h1 : Gv w a xs) (h2 : Gv w b ys) (hl : xs.length ≤ 1000000) :
    Calls Try.prog 88 #[.slice a xs.length c, .slice b ys.length d] w fun e w' => e = .returned (.bool (decide (xs = ys))) ∧ Kept (fun _ => True) w w' := by
  have H1 : Hid (Gv w a xs) := h1
  have H2 : Hid (Gv w b ys) := h2
  clear h1 h2
  by_cases hn : xs.length = ys.length
  · have hnn : ((xs.length : Int) != (ys.length : Int)) = false := bne_eq_false_iff_eq.2 (by omega)
    go_enter Try.func88, Try.ntmps88
    go_wp2_with fail
    go_loopw [5] (fun t wr => ∃ k : Nat, k ≤ xs.length ∧ t = .int .i64 k ∧ xs.take k = ys.take k ∧ Kept (fun _ => True) w wr) (fun t _ => xs.length - (intOf t).toNat)
    case atStart => exact ⟨0, Nat.zero_le _, rfl, rfl, Kept.refl _ _⟩
    case round =>
      obtain ⟨k, hk, rfl, hs, hkr⟩ := hrel
      obtain ⟨wI, hwI⟩ : ∃ y, y = wr := ⟨_, rfl⟩
      rw [← hwI] at hkr ⊢
      clear hwI
      have HS : Hid (xs.take k = ys.take k) := hs
      have HKr : Hid (Kept (fun _ => True) w wI) := hkr
      clear hs
      by_cases hlt : k < xs.length
      · have hly : k < ys.length := by omega
        obtain ⟨b1, o1, rfl, hb1, hc1⟩ := H1.out (by omega)
        obtain ⟨b2, o2, rfl, hb2, hc2⟩ := H2.out (by omega)
        have c1 : ∀ W, Kept (fun _ => True) wI W → W.cell? ⟨b1, o1 + k, none⟩ = some (.int .i64 (xs[k] : Nat)) := fun W q => (kept_cell (hkr.trans q) hb1 trivial).trans (hc1 k hlt)
        have c2 : ∀ W, Kept (fun _ => True) wI W → W.cell? ⟨b2, o2 + k, none⟩ = some (.int .i64 (ys[k] : Nat)) := fun W q => (kept_cell (hkr.trans q) hb2 trivial).trans (hc2 k hly)
        have i0 : (0 : Int) ≤ (k : Int) := by omega
        have i1 : (k : Int) < (xs.length : Int) := by omega
        have i2 : (k : Int) < (ys.length : Int) := by omega
        have HI : Hid (k < xs.length) := hlt
        have HT : Hid (xs.take (k + 1) = xs.take k ++ [xs[k]] ∧ ys.take (k + 1) = ys.take k ++ [ys[k]]) := ⟨List.take_succ_eq_append_getElem hlt, List.take_succ_eq_append_getElem hly⟩
        have HD : Hid (xs[k] ≠ ys[k] → decide (xs = ys) = false) := fun hne => decide_eq_false (fun e => by subst e; exact hne rfl)
        clear hc1 hc2 hkr hk
        generalize xs[k] = x at *
        generalize ys[k] = y at *
        by_cases he : x = y
        · subst he
          have hne : ((x : Int) != (x : Int)) = false := bne_eq_false_iff_eq.2 rfl
          go_wp2_with fail
          refine Gz.begin (fun W => Kept (fun _ => True) wI W) (fun _ => false) (by kernel_rfl) ?_
          refine Gz.tk (i := 0) (oi := ⟨some 17, .move (.tmp 0), 22, _, _, none⟩) (v := ?_) rfl (by kernel_rfl) (fun _ _ _ h => h) (Or.inl ⟨by rfl, ?hy0⟩) (Kept.refl _ _).drew ?_
          case hy0 => (intro W hS; (try dsimp only at hS); go_simp; try with_reducible rfl)
          try simp only [Act.put, lyA, ly0, ly1]
          refine Gz.tk (i := 1) (oi := ⟨some 18, .move (.tmp 5), 3, _, _, none⟩) (v := ?_) rfl (by kernel_rfl) (fun _ _ _ h => h) (Or.inl ⟨by rfl, ?hy1⟩) (Kept.refl _ _).drew ?_
          case hy1 => (intro W hS; (try dsimp only at hS); go_simp; try with_reducible rfl)
          try simp only [Act.put, lyA, ly0, ly1]
          refine Gz.tk (i := 2) (oi := ⟨some 19, .indexAddr 22 (.tmp 17) (.tmp 18), 0, _, _, none⟩) (v := ?_) rfl (by kernel_rfl) (fun _ _ _ h => h) (Or.inl ⟨by rfl, ?hy2⟩) (Kept.refl _ _).drew ?_
          case hy2 => (intro W hS; (try dsimp only at hS); go_simp; try with_reducible rfl)
          try simp only [Act.put, lyA, ly0, ly1]
          refine Gz.tk (i := 3) (oi := ⟨some 20, .load 3 (.tmp 19), 3, _, _, none⟩) (v := ?_) rfl (by kernel_rfl) (fun _ _ _ h => h) (Or.inl ⟨by rfl, ?hy3⟩) (Kept.refl _ _).drew ?_
          case hy3 => (intro W hS; (try dsimp only at hS); go_simp; try with_reducible rfl)
          try simp only [Act.put, lyA, ly0, ly1]
          refine Gz.tk (i := 4) (oi := ⟨some 21, .move (.tmp 1), 22, _, _, none⟩) (v := ?_) rfl (by kernel_rfl) (fun _ _ _ h => h) (Or.inl ⟨by rfl, ?hy4⟩) (Kept.refl _ _).drew ?_
          case hy4 => (intro W hS; (try dsimp only at hS); go_simp; try with_reducible rfl)
          try simp only [Act.put, lyA, ly0, ly1]
          refine Gz.tk (i := 5) (oi := ⟨some 22, .move (.tmp 5), 3, _, _, none⟩) (v := ?_) rfl (by kernel_rfl) (fun _ _ _ h => h) (Or.inl ⟨by rfl, ?hy5⟩) (Kept.refl _ _).drew ?_
          case hy5 => (intro W hS; (try dsimp only at hS); go_simp; try with_reducible rfl)
          try simp only [Act.put, lyA, ly0, ly1]
          refine Gz.tk (i := 6) (oi := ⟨some 23, .indexAddr 22 (.tmp 21) (.tmp 22), 0, _, _, none⟩) (v := ?_) rfl (by kernel_rfl) (fun _ _ _ h => h) (Or.inl ⟨by rfl, ?hy6⟩) (Kept.refl _ _).drew ?_
          case hy6 => (intro W hS; (try dsimp only at hS); go_simp; try with_reducible rfl)
          try simp only [Act.put, lyA, ly0, ly1]
          refine Gz.tk (i := 7) (oi := ⟨some 24, .load 3 (.tmp 23), 3, _, _, none⟩) (v := ?_) rfl (by kernel_rfl) (fun _ _ _ h => h) (Or.inl ⟨by rfl, ?hy7⟩) (Kept.refl _ _).drew ?_
          case hy7 => (intro W hS; (try dsimp only at hS); go_simp; try with_reducible rfl)
          try simp only [Act.put, lyA, ly0, ly1]
          refine Gz.tk (i := 8) (oi := ⟨some 25, .binOp BinOp.neq 3 (.tmp 20) (.tmp 24) 3, 4, _, _, none⟩) (v := ?_) rfl (by kernel_rfl) (fun _ _ _ h => h) (Or.inl ⟨by rfl, ?hy8⟩) (Kept.refl _ _).drew ?_
          case hy8 => (intro W hS; (try dsimp only at hS); go_simp; try with_reducible rfl)
          try simp only [Act.put, lyA, ly0, ly1]
          refine Gz.done (by kernel_rfl) ?_ _
          go_wp2_with fail
          go_roundw
          case rel => exact ⟨k + 1, by have := HI.out; omega, by go_num, by rw [HT.out.1, HT.out.2, HS.out], HKr.out.trans (Kept.refl _ _).drew⟩
          case measure => have := HI.out; simp [intOf]; omega
        · have hne : ((x : Int) != (y : Int)) = true := bne_iff_ne.2 (by omega)
          have HF := HD.out he
          go_wp2_with fail
          refine Gz.begin (fun W => Kept (fun _ => True) wI W) (fun _ => false) (by kernel_rfl) ?_
          refine Gz.tk (i := 0) (oi := ⟨some 17, .move (.tmp 0), 22, _, _, none⟩) (v := ?_) rfl (by kernel_rfl) (fun _ _ _ h => h) (Or.inl ⟨by rfl, ?hy0⟩) (Kept.refl _ _).drew ?_
          case hy0 => (intro W hS; (try dsimp only at hS); go_simp; try with_reducible rfl)
          try simp only [Act.put, lyA, ly0, ly1]
          refine Gz.tk (i := 1) (oi := ⟨some 18, .move (.tmp 5), 3, _, _, none⟩) (v := ?_) rfl (by kernel_rfl) (fun _ _ _ h => h) (Or.inl ⟨by rfl, ?hy1⟩) (Kept.refl _ _).drew ?_
          case hy1 => (intro W hS; (try dsimp only at hS); go_simp; try with_reducible rfl)
          try simp only [Act.put, lyA, ly0, ly1]
          refine Gz.tk (i := 2) (oi := ⟨some 19, .indexAddr 22 (.tmp 17) (.tmp 18), 0, _, _, none⟩) (v := ?_) rfl (by kernel_rfl) (fun _ _ _ h => h) (Or.inl ⟨by rfl, ?hy2⟩) (Kept.refl _ _).drew ?_
          case hy2 => (intro W hS; (try dsimp only at hS); go_simp; try with_reducible rfl)
          try simp only [Act.put, lyA, ly0, ly1]
          refine Gz.tk (i := 3) (oi := ⟨some 20, .load 3 (.tmp 19), 3, _, _, none⟩) (v := ?_) rfl (by kernel_rfl) (fun _ _ _ h => h) (Or.inl ⟨by rfl, ?hy3⟩) (Kept.refl _ _).drew ?_
          case hy3 => (intro W hS; (try dsimp only at hS); go_simp; try with_reducible rfl)
          try simp only [Act.put, lyA, ly0, ly1]
          refine Gz.tk (i := 4) (oi := ⟨some 21, .move (.tmp 1), 22, _, _, none⟩) (v := ?_) rfl (by kernel_rfl) (fun _ _ _ h => h) (Or.inl ⟨by rfl, ?hy4⟩) (Kept.refl _ _).drew ?_
          case hy4 => (intro W hS; (try dsimp only at hS); go_simp; try with_reducible rfl)
          try simp only [Act.put, lyA, ly0, ly1]
          refine Gz.tk (i := 5) (oi := ⟨some 22, .move (.tmp 5), 3, _, _, none⟩) (v := ?_) rfl (by kernel_rfl) (fun _ _ _ h => h) (Or.inl ⟨by rfl, ?hy5⟩) (Kept.refl _ _).drew ?_
          case hy5 => (intro W hS; (try dsimp only at hS); go_simp; try with_reducible rfl)
          try simp only [Act.put, lyA, ly0, ly1]
          refine Gz.tk (i := 6) (oi := ⟨some 23, .indexAddr 22 (.tmp 21) (.tmp 22), 0, _, _, none⟩) (v := ?_) rfl (by kernel_rfl) (fun _ _ _ h => h) (Or.inl ⟨by rfl, ?hy6⟩) (Kept.refl _ _).drew ?_
          case hy6 => (intro W hS; (try dsimp only at hS); go_simp; try with_reducible rfl)
          try simp only [Act.put, lyA, ly0, ly1]
          refine Gz.tk (i := 7) (oi := ⟨some 24, .load 3 (.tmp 23), 3, _, _, none⟩) (v := ?_) rfl (by kernel_rfl) (fun _ _ _ h => h) (Or.inl ⟨by rfl, ?hy7⟩) (Kept.refl _ _).drew ?_
          case hy7 => (intro W hS; (try dsimp only at hS); go_simp; try with_reducible rfl)
          try simp only [Act.put, lyA, ly0, ly1]
          refine Gz.tk (i := 8) (oi := ⟨some 25, .binOp BinOp.neq 3 (.tmp 20) (.tmp 24) 3, 4, _, _, none⟩) (v := ?_) rfl (by kernel_rfl) (fun _ _ _ h => h) (Or.inl ⟨by rfl, ?hy8⟩) (Kept.refl _ _).drew ?_
          case hy8 => (intro W hS; (try dsimp only at hS); go_simp; try with_reducible rfl)
          try simp only [Act.put, lyA, ly0, ly1]
          refine Gz.done (by kernel_rfl) ?_ _
          go_wp2_with fail
          go_ret
          exact ⟨by rw [HF]; rfl, HKr.out.trans (Kept.refl _ _).drew⟩
      · have i1 : ¬ (k : Int) < (xs.length : Int) := by omega
        have HF : Hid (decide (xs = ys) = true) := by
          show _ = _
          have := HS.out
          rw [List.take_of_length_le (by omega), List.take_of_length_le (by omega)] at this
          simp [this]
        clear hlt hk hkr
        go_wp2_with fail
        go_ret
        exact ⟨by rw [HF.out]; rfl, HKr.out⟩
  · have hnn : ((xs.length : Int) != (ys.length : Int)) = true := bne_iff_ne.2 (by omega)
    have HF : Hid (decide (xs = ys) = false) := decide_eq_false (fun e => hn (by rw [e]))
    clear hn
    go_enter Try.func88, Try.ntmps88
    go_wp2_with fail
    go_ret
    exact ⟨by rw [HF.out]; rfl, Kept.refl _ _⟩

def hit5 (x y : Ur) : Bool := decide (y.tx = x.tx) && ((decide (y.k = 3) || decide (y.k = 4)) && decide (y.k ≠ x.k))
def hit7 (x y : Ur) : Bool := decide (y.tx = x.tx) && (decide (y.k = 3) && (decide (x.k = 3) && decide (x.gs ≠ y.gs)))
def Beside (f : Ur → Bool) (xs : List Rk) (i n : Nat) : Prop := ∃ j, j < n ∧ ∃ hj : j < xs.length, j ≠ i ∧ ∃ p ∈ xs[j].us, f p.1 = true

def EW (P : Prop) (w : World) (e : Ending) (w' : World) : Prop := ∃ z : Bool, e = .returned (.bool z) ∧ (z = true ↔ P) ∧ Kept (fun _ => True) w w'

set_option maxRecDepth 100000 in
set_option maxHeartbeats 4000000 in
theorem wrong5_any {w : World} {v0 : Value} {ak : Option Addr} {ck : Nat} {xs : List Rk} (h : Rkv w ak xs) (i q : Nat) (hi : i < xs.length) (hq : q < xs[i].us.length) (hqm : q ≤ 4096) (hsz : xs.length ≤ 1000 ∧ (∀ x ∈ xs, x.us.length ≤ 100000) ∧ (xs[i].us[q]).1.gs.length ≤ 1000) :
    Calls Try.prog 69 #[v0, .slice ak xs.length ck, .int .i64 5, .int .i64 i, .int .i64 q] w (EW (Beside (hit5 (xs[i].us[q]).1) xs i xs.length) w) := by
  obtain ⟨b, off, rfl, cL0, cR⟩ := h.two i hi
  clear cL0
  have hvu := h.us _ (List.getElem_mem hi)
  obtain ⟨b2, off2, hb2, q0, q1, q2, q3⟩ := rec_cells hvu q hq
  have hgv := h.gs _ (List.getElem_mem hi) _ (List.getElem_mem hq)
  rw [hb2] at cR
  have HX : Hid (Rkv w (some ⟨b, off, none⟩) xs) := h
  have i0 : (0 : Int) ≤ (i : Int) := by omega
  have i1 : (i : Int) < (xs.length : Int) := by omega
  have j0 : (0 : Int) ≤ (q : Int) := by omega
  have j1 : (q : Int) < (xs[i].us.length : Int) := by omega
  have HSZ : Hid (xs.length ≤ 1000 ∧ (∀ x ∈ xs, x.us.length ≤ 100000)) := ⟨hsz.1, hsz.2.1⟩
  have hxl := hsz.2.2
  clear h hsz hvu
  generalize xs[i].us[q] = u at *
  obtain ⟨⟨xk, xt, xg, xb⟩, xa, xc⟩ := u
  simp only at q0 q1 q2 q3 hgv hxl ⊢
  have HXl : Hid (xg.length ≤ 1000) := hxl
  generalize xs[i].us.length = M at *
  generalize xs[i].cR = cx at *
  obtain ⟨w1, hw1⟩ : ∃ y, y = w.alloc (.cells #[.int .i64 (xk : Nat), .string ⟨xt.toArray⟩, .slice xa xg.length xc, .string ⟨xb.toArray⟩] 48) := ⟨_, rfl⟩
  have k1 : Kept (fun _ => True) w w1 := by rw [hw1]; exact (Kept.refl _ _).alloc _
  have F1 : Four4 w1 w.heap.size 48 (.int .i64 (xk : Nat)) (.string ⟨xt.toArray⟩) (.slice xa xg.length xc) (.string ⟨xb.toArray⟩) := by rw [hw1]; exact heap_alloc_new w _
  have HF1 : Hid (Four4 w1 w.heap.size 48 (.int .i64 (xk : Nat)) (.string ⟨xt.toArray⟩) (.slice xa xg.length xc) (.string ⟨xb.toArray⟩)) := F1
  have K1 : Hid (Kept (fun _ => True) w w1) := k1
  have HX1 : Hid (Rkv w1 (some ⟨b, off, none⟩) xs) := HX.out.all k1
  have HGx : Hid (Gv w1 xa xg) := hgv.all k1
  obtain ⟨x0, x1, x2, _⟩ := F1.cell
  have c0 := cR w (Kept.refl _ _)
  have q00 := q0 w (Kept.refl _ _)
  have q10 := q1 w (Kept.refl _ _)
  have q20 := q2 w (Kept.refl _ _)
  have q30 := q3 w (Kept.refl _ _)
  clear k1 F1 cR q0 q1 q2 q3 hb2 hq hgv HX hi hxl
  go_enter Try.func69, Try.ntmps69
  go_upto_region 2 with fail
  rw [← hw1]
  clear hw1 c0 q00 q10 q20 q30
  generalize w.heap.size = X at *
  go_wp2_with fail
  go_loopw [17] (fun t wr => ∃ k : Nat, k ≤ xs.length ∧ t = .int .i64 k ∧ ¬ Beside (hit5 ⟨xk, xt, xg, xb⟩) xs i k ∧ Kept (fun _ => True) w1 wr) (fun t _ => xs.length - (intOf t).toNat)
  case atStart => exact ⟨0, Nat.zero_le _, rfl, fun ⟨j, hj, _⟩ => by omega, Kept.refl _ _⟩
  case round =>
    obtain ⟨k, hk, rfl, hno, hkr⟩ := hrel
    obtain ⟨wI, hwI⟩ : ∃ y, y = wr := ⟨_, rfl⟩
    rw [← hwI] at hkr ⊢
    clear hwI
    have HKr : Hid (Kept (fun _ => True) w1 wI) := hkr
    have HNB : Hid (¬ Beside (hit5 ⟨xk, xt, xg, xb⟩) xs i k) := hno
    clear hno
    by_cases hlt : k < xs.length
    · obtain ⟨b', off', e', cL1, cK⟩ := (HX1.out.all hkr).two k hlt
      clear cL1
      injection e' with e'
      injection e' with e1' e2'
      subst e1' e2'
      have HRU : Hid (Vw recN wI xs[k].aR xs[k].us) := (HX1.out.all hkr).us _ (List.getElem_mem hlt)
      have HRG : Hid (∀ p ∈ xs[k].us, Gv wI p.2.1 p.1.gs) := (HX1.out.all hkr).gs _ (List.getElem_mem hlt)
      have HSL : Hid (xs[k].us.length ≤ 100000) := HSZ.out.2 _ (List.getElem_mem hlt)
      have HB1 : Hid ((k ≠ i → ∀ p ∈ xs[k].us, hit5 ⟨xk, xt, xg, xb⟩ p.1 = false) → ¬ Beside (hit5 ⟨xk, xt, xg, xb⟩) xs i (k + 1)) := fun hh ⟨j, hj, hj2, hji, p, hp, hf⟩ => by
        by_cases hjk : j = k
        · subst hjk
          rw [hh hji p hp] at hf
          cases hf
        · exact HNB.out ⟨j, by omega, hj2, hji, p, hp, hf⟩
      have HB2 : Hid (k ≠ i → ∀ p ∈ xs[k].us, hit5 ⟨xk, xt, xg, xb⟩ p.1 = true → Beside (hit5 ⟨xk, xt, xg, xb⟩) xs i xs.length) := fun hki p hp hf => ⟨k, hlt, hlt, hki, p, hp, hf⟩
      have HKl : Hid (k < xs.length) := hlt
      have l0 : (0 : Int) ≤ (k : Int) := by omega
      have l1 : (k : Int) < (xs.length : Int) := by omega
      have l3 : k < xs.length := hlt
      have l4 : xs.length ≤ 1000 := HSZ.out.1
      generalize xs[k].us = ys at *
      generalize xs[k].aR = aK at *
      generalize xs[k].cR = cK' at *
      clear hk hlt hkr
      go_wp2_with fail
      go_loopw [18] (fun t wr => ∃ n : Nat, n ≤ ys.length ∧ t = .int .i64 n ∧ (k ≠ i → (ys.take n).any (fun p => hit5 ⟨xk, xt, xg, xb⟩ p.1) = false) ∧ Kept (fun _ => True) wI wr) (fun t _ => ys.length - (intOf t).toNat)
      case atStart => exact ⟨0, Nat.zero_le _, rfl, fun _ => rfl, Kept.refl _ _⟩
      case round =>
        obtain ⟨n, hn, rfl, hany, hkn⟩ := hrel
        obtain ⟨wN, hwN⟩ : ∃ y, y = wr := ⟨_, rfl⟩
        rw [← hwN] at hkn ⊢
        clear hwN
        have HKn : Hid (Kept (fun _ => True) wI wN) := hkn
        have cKn := cK wN hkn
        have HANY : Hid (k ≠ i → (ys.take n).any (fun p => hit5 ⟨xk, xt, xg, xb⟩ p.1) = false) := hany
        clear hany
        by_cases hln : n < ys.length
        · have m1 : (n : Int) < (ys.length : Int) := by omega
          by_cases hki : k = i
          · have HKI : Hid (k = i) := hki
            have hne : ((k : Int) != (i : Int)) = false := bne_eq_false_iff_eq.2 (by omega)
            have HNX : Hid (¬ Beside (hit5 ⟨xk, xt, xg, xb⟩) xs i (k + 1)) := HB1.out (fun q => absurd hki q)
            clear hki hln hn
            go_wp2_with fail
            go_roundw
            case rel => exact ⟨k + 1, by have := HKl.out; omega, by go_num, HNX.out, HKr.out.trans hkn⟩
            case measure => have := HKl.out; simp [intOf]; omega
          · have HKI : Hid (k ≠ i) := hki
            have hne : ((k : Int) != (i : Int)) = true := bne_iff_ne.2 (by omega)
            obtain ⟨b3, off3, hb3, p0, p1, p2, p3⟩ := rec_cells HRU.out n hln
            have y0 := p0 wN hkn
            have y1 := p1 wN hkn
            have y2 := p2 wN hkn
            have y3 := p3 wN hkn
            rw [hb3] at cKn
            have HGy : Hid (Gv wN (ys[n]).2.1 (ys[n]).1.gs) := (HRG.out _ (List.getElem_mem hln)).all hkn
            have HNo : Hid (hit5 ⟨xk, xt, xg, xb⟩ ys[n].1 = false → (ys.take (n + 1)).any (fun p => hit5 ⟨xk, xt, xg, xb⟩ p.1) = false) := fun hf => by
              rw [List.take_succ_eq_append_getElem hln, List.any_append, HANY.out hki]
              simp [hf]
            have HY : Hid (hit5 ⟨xk, xt, xg, xb⟩ ys[n].1 = true → Beside (hit5 ⟨xk, xt, xg, xb⟩) xs i xs.length) := fun hf => HB2.out hki _ (List.getElem_mem hln) hf
            have HI : Hid (n < ys.length) := hln
            have n0 : (0 : Int) ≤ (n : Int) := by omega
            have n3 : n < ys.length := hln
            have hsl : ys.length ≤ 100000 := HSL.out
            clear HRU HRG
            generalize hy : ys[n] = u at *
            clear hy
            obtain ⟨⟨yk, yt, yg, yb⟩, ya, yc⟩ := u
            simp only at y0 y1 y2 y3 HNo HY HGy
            obtain ⟨w3, hw3⟩ : ∃ y, y = wN.alloc (.cells #[.int .i64 (yk : Nat), .string ⟨yt.toArray⟩, .slice ya yg.length yc, .string ⟨yb.toArray⟩] 48) := ⟨_, rfl⟩
            have k3 : Kept (fun _ => True) wN w3 := by rw [hw3]; exact (Kept.refl _ _).alloc _
            have F3 : Four4 w3 wN.heap.size 48 (.int .i64 (yk : Nat)) (.string ⟨yt.toArray⟩) (.slice ya yg.length yc) (.string ⟨yb.toArray⟩) := by rw [hw3]; exact heap_alloc_new wN _
            have K3 : Hid (Kept (fun _ => True) wI w3) := HKn.out.trans k3
            have HGy3 : Hid (Gv w3 ya yg) := HGy.out.all k3
            have HGx3 : Hid (Gv w3 xa xg) := HGx.out.all (HKr.out.trans K3.out)
            clear p0 p1 p2 p3 hkn hn hln hki hb3 HGy
            go_upto_region 33 with fail
            rw [← hw3]
            clear hw3 y0 y1 y2 y3 cKn
            generalize wN.heap.size = Y at *
            obtain ⟨z0, z1, z2, _⟩ := F3.cell
            obtain ⟨x0, x1, x2, _⟩ := (HF1.out.kept (HKr.out.trans K3.out) trivial).cell
            clear F3 k3
            by_cases ht : yt = xt
            · rw [ht] at z1
              by_cases h3 : yk = 3
              · rw [h3] at z0
                by_cases hx : xk = 3
                · rw [hx] at x0
                  have HT : Hid (hit5 ⟨xk, xt, xg, xb⟩ ⟨yk, yt, yg, yb⟩ = false) := by show _ = _; unfold hit5; simp [h3, hx]
                  go_wp2_with fail
                  go_roundw
                  case rel =>
                    first
                      | exact ⟨n + 1, by have := HI.out; omega, by go_num, fun _ => HNo.out HT.out, K3.out⟩
                      | (repeat apply Exists.intro
                         refine ⟨⟨n + 1, ?_, ?_, fun _ => HNo.out HT.out, K3.out⟩, rfl⟩
                         · have := HI.out; omega
                         · go_num)
                  case measure => have := HI.out; simp [intOf]; omega
                · have ex : ((3 : Int) != (xk : Int)) = true := bne_iff_ne.2 (by omega)
                  have hx2 : ¬ 3 = xk := fun e => hx e.symm
                  have HT : Hid (hit5 ⟨xk, xt, xg, xb⟩ ⟨yk, yt, yg, yb⟩ = true) := by show _ = _; unfold hit5; simp [ht, h3, hx2]
                  go_wp2_with fail
                  go_ret
                  exact ⟨true, rfl, ⟨(fun _ => (HY.out HT.out)), fun _ => rfl⟩, (K1.out.trans (HKr.out)).trans K3.out⟩
              · by_cases h4 : yk = 4
                · rw [h4] at z0
                  by_cases hx : xk = 4
                  · rw [hx] at x0
                    have HT : Hid (hit5 ⟨xk, xt, xg, xb⟩ ⟨yk, yt, yg, yb⟩ = false) := by show _ = _; unfold hit5; simp [h4, hx]
                    go_wp2_with fail
                    go_roundw
                    case rel =>
                      first
                        | exact ⟨n + 1, by have := HI.out; omega, by go_num, fun _ => HNo.out HT.out, K3.out⟩
                        | (repeat apply Exists.intro
                           refine ⟨⟨n + 1, ?_, ?_, fun _ => HNo.out HT.out, K3.out⟩, rfl⟩
                           · have := HI.out; omega
                           · go_num)
                    case measure => have := HI.out; simp [intOf]; omega
                  · have ex : ((4 : Int) != (xk : Int)) = true := bne_iff_ne.2 (by omega)
                    have hx2 : ¬ 4 = xk := fun e => hx e.symm
                    have HT : Hid (hit5 ⟨xk, xt, xg, xb⟩ ⟨yk, yt, yg, yb⟩ = true) := by show _ = _; unfold hit5; simp [ht, h4, hx2]
                    go_wp2_with fail
                    go_ret
                    exact ⟨true, rfl, ⟨(fun _ => (HY.out HT.out)), fun _ => rfl⟩, (K1.out.trans (HKr.out)).trans K3.out⟩
                · have e3 : ((yk : Int) != 3) = true := bne_iff_ne.2 (by omega)
                  have e4 : ((yk : Int) != 4) = true := bne_iff_ne.2 (by omega)
                  have HT : Hid (hit5 ⟨xk, xt, xg, xb⟩ ⟨yk, yt, yg, yb⟩ = false) := by show _ = _; unfold hit5; simp [h3, h4]
                  go_wp2_with fail
                  go_roundw
                  case rel =>
                    first
                      | exact ⟨n + 1, by have := HI.out; omega, by go_num, fun _ => HNo.out HT.out, K3.out⟩
                      | (repeat apply Exists.intro
                         refine ⟨⟨n + 1, ?_, ?_, fun _ => HNo.out HT.out, K3.out⟩, rfl⟩
                         · have := HI.out; omega
                         · go_num)
                  case measure => have := HI.out; simp [intOf]; omega
            · have h1 : (yt == xt) = false := by simp [ht]
              have h2 : decide (yt = xt) = false := by simp [ht]
              have HT : Hid (hit5 ⟨xk, xt, xg, xb⟩ ⟨yk, yt, yg, yb⟩ = false) := by show _ = _; unfold hit5; simp [ht]
              go_wp2_with fail
              go_roundw
              case rel => exact ⟨n + 1, by have := HI.out; omega, by go_num, fun _ => HNo.out HT.out, K3.out⟩
              case measure => have := HI.out; simp [intOf]; omega
        · have m1 : ¬ (n : Int) < (ys.length : Int) := by omega
          have HNX : Hid (¬ Beside (hit5 ⟨xk, xt, xg, xb⟩) xs i (k + 1)) := HB1.out (fun q p hp => by
            have := HANY.out q
            rw [List.take_of_length_le (by omega)] at this
            have h2 := List.any_eq_false.1 this p hp
            simpa using h2)
          clear hln hn
          go_wp2_with fail
          go_roundw
          case rel => exact ⟨k + 1, by have := HKl.out; omega, by go_num, HNX.out, HKr.out.trans hkn⟩
          case measure => have := HKl.out; simp [intOf]; omega
    · obtain rfl : k = xs.length := by omega
      have l1 : ¬ ((xs.length : Nat) : Int) < (xs.length : Int) := by omega
      have HKK : Hid (Kept (fun _ => True) w wI) := K1.out.trans (hkr)
      clear hlt hk hkr
      go_wp2_with fail
      go_ret
      exact ⟨false, rfl, ⟨(fun h => by cases h), fun h => absurd h HNB.out⟩, HKK.out⟩
end Go.Proofs.Ytmcaoimgmgjjiaa
