/-
  Texts of the proofs, 39 of 52.
-/
import Derived.Test.YtmcaoimgmgjjiaaWAK
import Derived.Test.YtmcaoimgmgjjiaaWAL
namespace Go.Proofs.Ytmcaoimgmgjjiaa
open Go.RowKit Go.Maps Go.Sort

structure Rk where
  ls : List Li
  us : List Ut
  aL : Option Addr
  cL : Nat
  aR : Option Addr
  cR : Nat
def kcell (x : Rk) : List Value := [.slice x.aL x.ls.length x.cL, .slice x.aR x.us.length x.cR]
def rkS : Shp Rk := ⟨2, kcell, fun _ => rfl, fun p u hu => by
  simp only [kcell, List.mem_cons, List.not_mem_nil, or_false] at hu
  rcases hu with rfl | rfl <;> rfl⟩
def ncell (p : Ut) : List Value := [.int .i64 (p.1.k : Nat), .string ⟨p.1.tx.toArray⟩, .slice p.2.1 p.1.gs.length p.2.2, .string ⟨p.1.bd.toArray⟩]
def recN : Shp Ut := ⟨4, ncell, fun _ => rfl, fun p u hu => by
  simp only [ncell, List.mem_cons, List.not_mem_nil, or_false] at hu
  rcases hu with rfl | rfl | rfl | rfl <;> rfl⟩
structure Rkv (w : World) (a : Option Addr) (xs : List Rk) : Prop where
  vw : Vw rkS w a xs
  ls : ∀ x ∈ xs, Lv w x.aL x.ls
  us : ∀ x ∈ xs, Vw recN w x.aR x.us
  gs : ∀ x ∈ xs, ∀ p ∈ x.us, Gv w p.2.1 p.1.gs
theorem Rkv.all {w w' : World} {a : Option Addr} {xs : List Rk} (h : Rkv w a xs) (k : Kept (fun _ => True) w w') : Rkv w' a xs := ⟨h.vw.all k, fun x hx => (h.ls x hx).all k, fun x hx => (h.us x hx).all k, fun x hx p hp => (h.gs x hx p hp).all k⟩
theorem Rkv.two {w : World} {a : Option Addr} {xs : List Rk} (h : Rkv w a xs) (i : Nat) (hi : i < xs.length) : ∃ b off, a = some ⟨b, off, none⟩ ∧ (∀ W, Kept (fun _ => True) w W → W.cell? ⟨b, off + i * 2, none⟩ = some (.slice xs[i].aL xs[i].ls.length xs[i].cL)) ∧ ∀ W, Kept (fun _ => True) w W → W.cell? ⟨b, off + i * 2 + 1, none⟩ = some (.slice xs[i].aR xs[i].us.length xs[i].cR) := by
  obtain ⟨b, off, e, hb, hc⟩ := h.vw.row (by omega)
  exact ⟨b, off, e, fun W q => (kept_cell q hb trivial).trans (hc i hi 0 _ rfl), fun W q => (kept_cell q hb trivial).trans (hc i hi 1 _ rfl)⟩
theorem rec_cells {w : World} {a : Option Addr} {us : List Ut} (h : Vw recN w a us) (q : Nat) (hq : q < us.length) : ∃ b off, a = some ⟨b, off, none⟩ ∧ (∀ W, Kept (fun _ => True) w W → W.cell? ⟨b, off + q * 4, none⟩ = some (.int .i64 (us[q].1.k : Nat))) ∧ (∀ W, Kept (fun _ => True) w W → W.cell? ⟨b, off + q * 4 + 1, none⟩ = some (.string ⟨us[q].1.tx.toArray⟩)) ∧ (∀ W, Kept (fun _ => True) w W → W.cell? ⟨b, off + q * 4 + 2, none⟩ = some (.slice us[q].2.1 us[q].1.gs.length us[q].2.2)) ∧ ∀ W, Kept (fun _ => True) w W → W.cell? ⟨b, off + q * 4 + 3, none⟩ = some (.string ⟨us[q].1.bd.toArray⟩) := by
  obtain ⟨b, off, e, hb, hc⟩ := h.row (by omega)
  exact ⟨b, off, e, fun W k => (kept_cell k hb trivial).trans (hc q hq 0 _ rfl), fun W k => (kept_cell k hb trivial).trans (hc q hq 1 _ rfl), fun W k => (kept_cell k hb trivial).trans (hc q hq 2 _ rfl), fun W k => (kept_cell k hb trivial).trans (hc q hq 3 _ rfl)⟩
def hit4 (x y : Ur) : Bool := decide (y.tx = x.tx) && (decide (y.k = 3) || (decide (y.k = 4) && decide (x.k = 3)))

set_option maxRecDepth 100000 in
set_option maxHeartbeats 4000000 in
theorem wrong4_any {w : World} {v0 : Value} {ak : Option Addr} {ck : Nat} {xs : List Rk} (h : Rkv w ak xs) (i q : Nat) (hi : i < xs.length) (hq : q < xs[i].us.length) (hqm : q ≤ 4096) :
    Calls Try.prog 69 #[v0, .slice ak xs.length ck, .int .i64 4, .int .i64 i, .int .i64 q] w fun e w' => e = .returned (.bool ((xs[i].us.take q).any fun y => hit4 (xs[i].us[q]).1 y.1)) ∧ Kept (fun _ => True) w w' := by
  obtain ⟨b, off, rfl, _, cR⟩ := h.two i hi
  have hvu := h.us _ (List.getElem_mem hi)
  have i0 : (0 : Int) ≤ (i : Int) := by omega
  have i1 : (i : Int) < (xs.length : Int) := by omega
  generalize xs[i] = x at *
  clear h hi
  generalize xs.length = N at *
  obtain ⟨b2, off2, hb2, q0, q1, q2, q3⟩ := rec_cells hvu q hq
  rw [hb2] at cR
  have HU : Hid (∀ k (hk : k < x.us.length), (∀ W, Kept (fun _ => True) w W → W.cell? ⟨b2, off2 + k * 4, none⟩ = some (.int .i64 (x.us[k].1.k : Nat))) ∧ (∀ W, Kept (fun _ => True) w W → W.cell? ⟨b2, off2 + k * 4 + 1, none⟩ = some (.string ⟨x.us[k].1.tx.toArray⟩)) ∧ (∀ W, Kept (fun _ => True) w W → W.cell? ⟨b2, off2 + k * 4 + 2, none⟩ = some (.slice x.us[k].2.1 x.us[k].1.gs.length x.us[k].2.2)) ∧ ∀ W, Kept (fun _ => True) w W → W.cell? ⟨b2, off2 + k * 4 + 3, none⟩ = some (.string ⟨x.us[k].1.bd.toArray⟩)) := fun k hk => by
    obtain ⟨b', off', e', r⟩ := rec_cells hvu k hk
    rw [hb2] at e'
    cases e'
    exact r
  have j0 : (0 : Int) ≤ (q : Int) := by omega
  have j1 : (q : Int) < (x.us.length : Int) := by omega
  have HQ : Hid (q < x.us.length) := hq
  generalize x.cR = cx at *
  generalize x.us[q] = u at *
  obtain ⟨⟨xk, xt, xg, xb⟩, xa, xc⟩ := u
  simp only at q0 q1 q2 q3 ⊢
  obtain ⟨w1, hw1⟩ : ∃ y, y = w.alloc (.cells #[.int .i64 (xk : Nat), .string ⟨xt.toArray⟩, .slice xa xg.length xc, .string ⟨xb.toArray⟩] 48) := ⟨_, rfl⟩
  have k1 : Kept (fun _ => True) w w1 := by rw [hw1]; exact (Kept.refl _ _).alloc _
  have F1 : Four4 w1 w.heap.size 48 (.int .i64 (xk : Nat)) (.string ⟨xt.toArray⟩) (.slice xa xg.length xc) (.string ⟨xb.toArray⟩) := by rw [hw1]; exact heap_alloc_new w _
  have HF1 : Hid (Four4 w1 w.heap.size 48 (.int .i64 (xk : Nat)) (.string ⟨xt.toArray⟩) (.slice xa xg.length xc) (.string ⟨xb.toArray⟩)) := F1
  have K1 : Hid (Kept (fun _ => True) w w1) := k1
  have cRA := cR w1 k1
  have c0 := cR w (Kept.refl _ _)
  have q00 := q0 w (Kept.refl _ _)
  have q10 := q1 w (Kept.refl _ _)
  have q20 := q2 w (Kept.refl _ _)
  have q30 := q3 w (Kept.refl _ _)
  have HCR : Hid (∀ W, Kept (fun _ => True) w W → W.cell? ⟨b, off + i * 2 + 1, none⟩ = some (.slice (some ⟨b2, off2, none⟩) x.us.length cx)) := cR
  clear k1 F1 cRA cR q0 q1 q2 q3 hb2 hq
  go_enter Try.func69, Try.ntmps69
  go_upto_region 2 with fail
  rw [← hw1]
  clear hw1 c0 q00 q10 q20 q30
  generalize w.heap.size = X at *
  go_wp2_with fail
  go_loopw [12] (fun t wr => ∃ k : Nat, k ≤ q ∧ t = .int .i64 k ∧ ((x.us.take k).any fun y => hit4 ⟨xk, xt, xg, xb⟩ y.1) = false ∧ Kept (fun _ => True) w1 wr) (fun t _ => q - (intOf t).toNat)
  case atStart => exact ⟨0, Nat.zero_le _, rfl, rfl, Kept.refl _ _⟩
  case round =>
    obtain ⟨k, hk, rfl, hno, hkr⟩ := hrel
    obtain ⟨wI, hwI⟩ : ∃ y, y = wr := ⟨_, rfl⟩
    rw [← hwI] at hkr ⊢
    clear hwI
    have HKr : Hid (Kept (fun _ => True) w1 wI) := hkr
    have hkk := K1.out.trans hkr
    by_cases hlt : k < q
    · have hk2 : k < x.us.length := by have := HQ.out; omega
      obtain ⟨p0, p1, p2, p3⟩ := HU.out k hk2
      have y0 := p0 wI hkk
      have y1 := p1 wI hkk
      have y2 := p2 wI hkk
      have y3 := p3 wI hkk
      have cI := HCR.out wI hkk
      have HNo : Hid (∀ z, (x.us.take (k + 1)).any (fun y => hit4 ⟨xk, xt, xg, xb⟩ y.1) = z ↔ hit4 ⟨xk, xt, xg, xb⟩ x.us[k].1 = z) := fun z => by
        rw [List.take_succ_eq_append_getElem hk2, List.any_append, hno]
        simp
      have HY : Hid (hit4 ⟨xk, xt, xg, xb⟩ x.us[k].1 = true → ((x.us.take q).any fun y => hit4 ⟨xk, xt, xg, xb⟩ y.1) = true) := fun hh => List.any_eq_true.2 ⟨x.us[k], take_mem hk2 hlt, hh⟩
      have HI : Hid (k < q) := hlt
      have l0 : (0 : Int) ≤ (k : Int) := by omega
      have l1 : (k : Int) < (x.us.length : Int) := by omega
      have l2 : (k : Int) < (q : Int) := by omega
      have l3 : k < x.us.length := hk2
      generalize hy : x.us[k] = u at *
      clear hy
      obtain ⟨⟨yk, yt, yg, yb⟩, ya, yc⟩ := u
      simp only at y0 y1 y2 y3 HNo HY
      obtain ⟨w3, hw3⟩ : ∃ y, y = wI.alloc (.cells #[.int .i64 (yk : Nat), .string ⟨yt.toArray⟩, .slice ya yg.length yc, .string ⟨yb.toArray⟩] 48) := ⟨_, rfl⟩
      have k3 : Kept (fun _ => True) wI w3 := by rw [hw3]; exact (Kept.refl _ _).alloc _
      have F3 : Four4 w3 wI.heap.size 48 (.int .i64 (yk : Nat)) (.string ⟨yt.toArray⟩) (.slice ya yg.length yc) (.string ⟨yb.toArray⟩) := by rw [hw3]; exact heap_alloc_new wI _
      have K3 : Hid (Kept (fun _ => True) w1 w3) := HKr.out.trans k3
      clear p0 p1 p2 p3 hno hkr hkk hk2 hk hlt
      go_upto_region 8 with fail
      rw [← hw3]
      clear hw3 y0 y1 y2 y3 cI
      generalize wI.heap.size = Y at *
      obtain ⟨z0, z1, _, _⟩ := F3.cell
      obtain ⟨x0, x1, _, _⟩ := (HF1.out.kept K3.out trivial).cell
      clear F3 k3
      by_cases ht : yt = xt
      · have HE : Hid (hit4 ⟨xk, xt, xg, xb⟩ ⟨yk, yt, yg, yb⟩ = (decide (yk = 3) || (decide (yk = 4) && decide (xk = 3)))) := by show _ = _; unfold hit4; simp only [ht, decide_true, Bool.true_and]
        rw [ht] at z1
        clear ht
        by_cases h3 : yk = 3
        · have HT : Hid (hit4 ⟨xk, xt, xg, xb⟩ ⟨yk, yt, yg, yb⟩ = true) := by show _ = _; rw [HE.out]; simp [h3]
          rw [h3] at z0
          go_wp2_with fail
          go_ret
          exact ⟨by rw [HY.out HT.out]; rfl, K1.out.trans K3.out⟩
        · have e3 : ((yk : Int) == 3) = false := beq_eq_false_iff_ne.2 (by omega)
          by_cases h4 : yk = 4 ∧ xk = 3
          · have HT : Hid (hit4 ⟨xk, xt, xg, xb⟩ ⟨yk, yt, yg, yb⟩ = true) := by show _ = _; rw [HE.out]; simp [h4.1, h4.2]
            rw [h4.1] at z0
            rw [h4.2] at x0
            go_wp2_with fail
            go_ret
            exact ⟨by rw [HY.out HT.out]; rfl, K1.out.trans K3.out⟩
          · have HT : Hid (hit4 ⟨xk, xt, xg, xb⟩ ⟨yk, yt, yg, yb⟩ = false) := by
              show _ = _
              rw [HE.out]
              simp only [h3, decide_false, Bool.false_or, Bool.and_eq_false_iff, decide_eq_false_iff_not]
              by_cases q4 : yk = 4
              · exact .inr (fun q3 => h4 ⟨q4, q3⟩)
              · exact .inl q4
            by_cases q4 : yk = 4
            · have ex : ((xk : Int) == 3) = false := beq_eq_false_iff_ne.2 (by have : ¬ xk = 3 := fun q3 => h4 ⟨q4, q3⟩; omega)
              rw [q4] at z0
              clear e3
              go_wp2_with fail
              go_roundw
              case rel => exact ⟨k + 1, by have := HI.out; omega, by go_num, (HNo.out false).2 HT.out, K3.out⟩
              case measure => have := HI.out; simp [intOf]; omega
            · have e4 : ((yk : Int) == 4) = false := beq_eq_false_iff_ne.2 (by omega)
              go_wp2_with fail
              go_roundw
              case rel => exact ⟨k + 1, by have := HI.out; omega, by go_num, (HNo.out false).2 HT.out, K3.out⟩
              case measure => have := HI.out; simp [intOf]; omega
      · have h1 : (yt == xt) = false := by simp [ht]
        have h2 : decide (yt = xt) = false := by simp [ht]
        have HT : Hid (hit4 ⟨xk, xt, xg, xb⟩ ⟨yk, yt, yg, yb⟩ = false) := by show _ = _; unfold hit4; simp only [ht, decide_false, Bool.false_and]
        go_wp2_with fail
        go_roundw
        case rel => exact ⟨k + 1, by have := HI.out; omega, by go_num, (HNo.out false).2 HT.out, K3.out⟩
        case measure => have := HI.out; simp [intOf]; omega
    · obtain rfl : k = q := by omega
      have l2 : ¬ ((k : Nat) : Int) < (k : Int) := by omega
      have HNo : Hid (((x.us.take k).any fun y => hit4 ⟨xk, xt, xg, xb⟩ y.1) = false) := hno
      clear hno hk hlt
      go_wp2_with fail
      go_ret
      exact ⟨by rw [HNo.out]; rfl, hkk⟩

end Go.Proofs.Ytmcaoimgmgjjiaa
