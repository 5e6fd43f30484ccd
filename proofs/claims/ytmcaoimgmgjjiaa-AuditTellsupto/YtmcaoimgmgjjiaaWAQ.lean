/-
  Texts of the proofs, 43 of 52.
-/
import Derived.Test.YtmcaoimgmgjjiaaWAP
import Derived.Test.YtmcaoimgmgjjiaaWP
import Derived.Test.YtmcaoimgmgjjiaaWE
namespace Go.Proofs.Ytmcaoimgmgjjiaa
open Go.RowKit Go.Maps Go.Sort

def BrkIs (B : Nat → Prop) (n : Nat) (z : Int) : Prop := (z = -1 ∧ ∀ q, q < n → ¬ B q) ∨ ∃ q, q < n ∧ z = (q : Nat) ∧ B q ∧ ∀ q', q' < q → ¬ B q'
def EBrk (B : Nat → Prop) (n : Nat) (w : World) (e : Ending) (w' : World) : Prop := (∃ z, e = .returned (.int .i64 z) ∧ BrkIs B n z) ∧ Kept (fun _ => True) w w'

set_option maxRecDepth 100000 in
set_option maxHeartbeats 4000000 in
theorem breaksR_any {w : World} {v0 : Value} {ak : Option Addr} {ck : Nat} {xs : List Rk} (h : Rkv w ak xs) (r : Int) (hr : r ≠ 3) (i : Nat) (hi : i < xs.length) (hn : xs[i].us.length ≤ 4096) (P : Nat → Prop)
    (hw : ∀ W q (hq : q < xs[i].us.length), Kept (fun _ => True) w W → ((xs[i].us[q]).1.k = 3 ∨ (xs[i].us[q]).1.k = 4) → Calls Try.prog 69 #[v0, .slice ak xs.length ck, .int .i64 r, .int .i64 i, .int .i64 q] W (EW (P q) W)) :
    Calls Try.prog 36 #[v0, .slice ak xs.length ck, .int .i64 r, .int .i64 i] w (EBrk (fun q => ∃ hq : q < xs[i].us.length, ((xs[i].us[q]).1.k = 3 ∨ (xs[i].us[q]).1.k = 4) ∧ P q) xs[i].us.length w) := by
  obtain ⟨b, off, rfl, cL0, cR⟩ := h.two i hi
  clear cL0
  have HVU : Hid (Vw recN w xs[i].aR xs[i].us) := h.us _ (List.getElem_mem hi)
  have i0 : (0 : Int) ≤ (i : Int) := by omega
  have i1 : (i : Int) < (xs.length : Int) := by omega
  have hr3 : (r == 3) = false := beq_eq_false_iff_ne.2 hr
  have HW : Hid (∀ W q (hq : q < xs[i].us.length), Kept (fun _ => True) w W → ((xs[i].us[q]).1.k = 3 ∨ (xs[i].us[q]).1.k = 4) → Calls Try.prog 69 #[v0, .slice (some ⟨b, off, none⟩) xs.length ck, .int .i64 r, .int .i64 i, .int .i64 q] W (EW (P q) W)) := hw
  clear hw h hr
  generalize xs[i].us = us at *
  generalize xs[i].aR = aR at *
  generalize xs[i].cR = cx at *
  clear hi
  generalize xs.length = N at *
  obtain ⟨B, hB⟩ : ∃ B : Nat → Prop, B = fun q => ∃ hq : q < us.length, ((us[q]).1.k = 3 ∨ (us[q]).1.k = 4) ∧ P q := ⟨_, rfl⟩
  rw [← hB]
  have HB : Hid (∀ q (hq : q < us.length), B q ↔ ((us[q]).1.k = 3 ∨ (us[q]).1.k = 4) ∧ P q) := fun q hq => by
    rw [hB]
    exact ⟨fun ⟨_, h⟩ => h, fun h => ⟨hq, h⟩⟩
  clear hB
  go_enter Try.func36, Try.ntmps36
  go_wp2_with fail
  go_loopw [12] (fun t wr => ∃ q : Nat, q ≤ us.length ∧ t = .int .i64 q ∧ (∀ q', q' < q → ¬ B q') ∧ Kept (fun _ => True) w wr) (fun t _ => us.length - (intOf t).toNat)
  case atStart => exact ⟨0, Nat.zero_le _, rfl, fun _ h => by omega, Kept.refl _ _⟩
  case round =>
    obtain ⟨q, hq, rfl, hno, hkr⟩ := hrel
    obtain ⟨wI, hwI⟩ : ∃ y, y = wr := ⟨_, rfl⟩
    rw [← hwI] at hkr ⊢
    clear hwI
    have HNo : Hid (∀ q', q' < q → ¬ B q') := hno
    have HKr : Hid (Kept (fun _ => True) w wI) := hkr
    have cI := cR wI hkr
    clear hno
    by_cases hlt : q < us.length
    · obtain ⟨b2, off2, hb2, p0, p1, p2, p3⟩ := rec_cells HVU.out q hlt
      have y0 := p0 wI hkr
      have y1 := p1 wI hkr
      have y2 := p2 wI hkr
      have y3 := p3 wI hkr
      rw [hb2] at cI
      have HBq : Hid (B q ↔ ((us[q]).1.k = 3 ∨ (us[q]).1.k = 4) ∧ P q) := HB.out q hlt
      have HWq : Hid (∀ W, Kept (fun _ => True) w W → ((us[q]).1.k = 3 ∨ (us[q]).1.k = 4) → Calls Try.prog 69 #[v0, .slice (some ⟨b, off, none⟩) N ck, .int .i64 r, .int .i64 i, .int .i64 q] W (EW (P q) W)) := fun W => HW.out W q hlt
      have HI : Hid (q < us.length) := hlt
      have l0 : (0 : Int) ≤ (q : Int) := by omega
      have l1 : (q : Int) < (us.length : Int) := by omega
      have l3 : q < us.length := hlt
      generalize hy : us[q] = u at *
      clear hy
      obtain ⟨⟨yk, yt, yg, yb⟩, ya, yc⟩ := u
      simp only at y0 y1 y2 y3 HBq HWq
      obtain ⟨w3, hw3⟩ : ∃ y, y = wI.alloc (.cells #[.int .i64 (yk : Nat), .string ⟨yt.toArray⟩, .slice ya yg.length yc, .string ⟨yb.toArray⟩] 48) := ⟨_, rfl⟩
      have k3 : Kept (fun _ => True) wI w3 := by rw [hw3]; exact (Kept.refl _ _).alloc _
      have F3 : Four4 w3 wI.heap.size 48 (.int .i64 (yk : Nat)) (.string ⟨yt.toArray⟩) (.slice ya yg.length yc) (.string ⟨yb.toArray⟩) := by rw [hw3]; exact heap_alloc_new wI _
      have K3 : Hid (Kept (fun _ => True) w w3) := HKr.out.trans k3
      clear p0 p1 p2 p3 hkr hq hlt hb2
      go_upto_region 18 with fail
      rw [← hw3]
      clear hw3 y0 y1 y2 y3 cI
      generalize wI.heap.size = Y at *
      obtain ⟨z0, z1, z2, _⟩ := F3.cell
      clear F3 k3
      by_cases h3 : yk = 3
      · have cw := HWq.out w3 K3.out (.inl h3)
        have HBP : Hid (B q ↔ P q) := by
          refine HBq.out.trans ⟨fun h => h.2, fun h => ⟨.inl h3, h⟩⟩
        rw [h3] at z0
        clear h3
        go_upto_if 111 with (go_at_call 69; (with_reducible refine Calls.mono cw ?_); rintro e w4 ⟨z, rfl, hz, k4⟩; have HZ : Hid (z = true ↔ P q) := hz; have K4 : Hid (Kept (fun _ => True) w w4) := K3.out.trans k4; clear hz k4 cw)
        cases z with
        | true =>
          have HPq : Hid (P q) := by first | exact HZ.out.1 rfl | exact HZ.out.1 trivial
          go_wp2_with fail
          go_ret
          exact ⟨⟨_, rfl, .inr ⟨q, HI.out, rfl, HBP.out.2 HPq.out, HNo.out⟩⟩, K4.out⟩
        | false =>
          have HN1 : Hid (∀ q', q' < q + 1 → ¬ B q') := fun q' h1 h2 => by
            by_cases e : q' = q
            · subst e
              have := HZ.out.2 (HBP.out.1 h2)
              cases this
            · exact HNo.out q' (by omega) h2
          go_wp2_with fail
          go_roundw
          case rel => exact ⟨q + 1, by have := HI.out; omega, by go_num, HN1.out, K4.out⟩
          case measure => have := HI.out; simp [intOf]; omega
      · by_cases h4 : yk = 4
        · have cw := HWq.out w3 K3.out (.inr h4)
          have HBP : Hid (B q ↔ P q) := by
            refine HBq.out.trans ⟨fun h => h.2, fun h => ⟨.inr h4, h⟩⟩
          rw [h4] at z0
          clear h3 h4
          go_upto_if 111 with (go_at_call 69; (with_reducible refine Calls.mono cw ?_); rintro e w4 ⟨z, rfl, hz, k4⟩; have HZ : Hid (z = true ↔ P q) := hz; have K4 : Hid (Kept (fun _ => True) w w4) := K3.out.trans k4; clear hz k4 cw)
          cases z with
          | true =>
            have HPq : Hid (P q) := by first | exact HZ.out.1 rfl | exact HZ.out.1 trivial
            go_wp2_with fail
            go_ret
            exact ⟨⟨_, rfl, .inr ⟨q, HI.out, rfl, HBP.out.2 HPq.out, HNo.out⟩⟩, K4.out⟩
          | false =>
            have HN1 : Hid (∀ q', q' < q + 1 → ¬ B q') := fun q' h1 h2 => by
              by_cases e : q' = q
              · subst e
                have := HZ.out.2 (HBP.out.1 h2)
                cases this
              · exact HNo.out q' (by omega) h2
            go_wp2_with fail
            go_roundw
            case rel => exact ⟨q + 1, by have := HI.out; omega, by go_num, HN1.out, K4.out⟩
            case measure => have := HI.out; simp [intOf]; omega
        · have e3 : ((yk : Int) == 3) = false := beq_eq_false_iff_ne.2 (by omega)
          have e4 : ((yk : Int) == 4) = false := beq_eq_false_iff_ne.2 (by omega)
          have HN1 : Hid (∀ q', q' < q + 1 → ¬ B q') := fun q' h1 h2 => by
            by_cases e : q' = q
            · subst e
              rcases (HBq.out.1 h2).1 with g | g
              · exact h3 g
              · exact h4 g
            · exact HNo.out q' (by omega) h2
          clear h3 h4
          go_wp2_with fail
          go_roundw
          case rel => exact ⟨q + 1, by have := HI.out; omega, by go_num, HN1.out, K3.out⟩
          case measure => have := HI.out; simp [intOf]; omega
    · obtain rfl : q = us.length := by omega
      have l1 : ¬ ((us.length : Nat) : Int) < (us.length : Int) := by omega
      clear hlt hq hkr
      go_wp2_with fail
      go_ret
      exact ⟨⟨-1, rfl, .inl ⟨rfl, HNo.out⟩⟩, HKr.out⟩

end Go.Proofs.Ytmcaoimgmgjjiaa
