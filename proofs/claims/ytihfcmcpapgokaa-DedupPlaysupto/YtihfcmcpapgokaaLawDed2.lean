/-
  DedupPlays.
-/
import Derived.Test.YtihfcmcpapgokaaEPair
import Derived.Deep.CutRange
import Derived.Deep.RegionHeld
namespace Go.Proofs.Ytihfcmcpapgokaa
open Go.RowKit

set_option maxHeartbeats 1000000 in
theorem dedupPlays_bad {w : World} (z : Int) (hz : z < 1 ∨ 64 < z) {a : Option Addr} {na ca : Nat} :
    Calls Try.prog 4 #[.int .i64 z, .slice a na ca] w fun e w' => e = .returned (.bool true) ∧ Kept (fun _ => True) w w' := by
  by_cases g1 : z < 1
  · have cn := new_bad (w := w) z hz
    go_enter Try.func4, Try.ntmps4
    go_wp2_with fail
    refine Calls.mono cn ?_
    rintro e w1 ⟨rfl, rfl⟩
    go_wp2_with fail
    refine Calls.mono known_any ?_
    rintro e w2 ⟨rfl, k2⟩
    go_wp2_with fail
    go_ret
    exact ⟨rfl, k2⟩
  · have g2 : 64 < z := by omega
    have cn := new_bad (w := w) z hz
    go_enter Try.func4, Try.ntmps4
    go_wp2_with fail
    refine Calls.mono cn ?_
    rintro e w1 ⟨rfl, rfl⟩
    go_wp2_with fail
    refine Calls.mono known_any ?_
    rintro e w2 ⟨rfl, k2⟩
    go_wp2_with fail
    go_ret
    exact ⟨rfl, k2⟩

set_option maxRecDepth 100000 in
set_option maxHeartbeats 4000000 in
theorem dedupPlays_good {w : World} (m : Nat) (hm1 : 1 ≤ m) (hm6 : m ≤ 64) {a : Option Addr} {na ca : Nat} (ha : IsAsks w a na 1048576) :
    Calls Try.prog 4 #[.int .i64 m, .slice a na ca] w fun e w' => e = .returned (.bool true) ∧ Kept (fun _ => True) w w' := by
  have HS : Hid (IsAsks w a na 1048576) := ha
  clear ha
  have g1 : ¬ ((m : Int) < 1) := by omega
  have g2 : ¬ ((64 : Int) < (m : Int)) := by omega
  have cn := new_ok (w := w) (m : Int) (by omega) (by omega)
  go_enter Try.func4, Try.ntmps4
  go_wp2_with fail
  refine Calls.mono cn ?_
  rintro e w1 ⟨rfl, h1, k1⟩
  have H1 : Hid (TM w w1 w.heap.size (.slice none 0 0) m []) := ⟨h1, k1, Nat.le_refl _, fun k hk => by simp [Value.ownBlock] at hk⟩
  clear h1 k1 cn
  generalize w.heap.size = B at *
  go_wp2_with fail
  refine Calls.mono (rnew_any (m : Int)) ?_
  rintro e w2 ⟨rfl, h2, k2⟩
  have H2 : Hid (Bo w w2 B (.slice none 0 0) w1.heap.size (.slice none 0 0) m []) := ⟨H1.out.ahead k2, h2, H1.out.kept.size, fun k hk => by simp [Value.ownBlock] at hk, Good.nil hm1 hm6⟩
  clear h2 k2 H1
  generalize w1.heap.size = C at *
  go_wp2_with fail
  go_loopw [5, 8] (fun s t wr => ∃ (i B : Nat) (v u : Value) (xs : List La), i ≤ 100 ∧ s = .pointer (some ⟨B, 0, none⟩) ∧ t = .int .i64 i ∧ Bo w wr B v C u m xs) (fun _ t _ => 100 - (intOf t).toNat)
  case atStart => exact ⟨0, B, _, _, [], by omega, rfl, rfl, H2.out⟩
  case round =>
    obtain ⟨i, B, v, u, xs, hi, rfl, rfl, hB⟩ := hrel
    have H : Hid (Bo w wr B v C u m xs) := hB
    clear hB H2
    by_cases hlt : i < na ∧ i < 100
    · obtain ⟨b, off, y, rfl, hfit, hy⟩ := ask_at HS.out hlt.1
      have g3 : (i : Int) < (na : Int) := by omega
      have g4 : (i : Int) < 100 := by omega
      have g0 : (0 : Int) ≤ (i : Int) := by omega
      obtain ⟨y0, y1, y2, y3⟩ := hy wr H.out.tm.kept
      obtain ⟨kind, id, c, r⟩ := y
      simp only at y0 y1 y2 y3 hfit
      have HF : Hid (Fine ⟨c, id, r⟩) := ⟨hfit.1, by have := hfit.2.1; show c.length < _; omega, by have := hfit.2.2; show r.length < _; omega⟩
      clear hlt hy hfit
      go_upto_region 11 with fail
      iterate 10 (first | go_values | go_skip | go_guarded | go_step | go_upon | go_back)
      have kX : Kept (fun _ => True) wr (wr.alloc (.cells #[.int .i64 kind, .int .i64 id, .string ⟨c.toArray⟩, .string ⟨r.toArray⟩] 40)) := (Kept.refl _ _).alloc _
      have hX := quad_cell (heap_alloc_new wr (.cells #[.int .i64 kind, .int .i64 id, .string ⟨c.toArray⟩, .string ⟨r.toArray⟩] 40))
      have hXA : Hid ((wr.heap.size ≠ B ∧ v.ownBlock ≠ some wr.heap.size) ∧ (wr.heap.size ≠ C ∧ u.ownBlock ≠ some wr.heap.size)) := ⟨⟨Ne.symm (Nat.ne_of_lt H.out.tm.tb.lt), fun e => Nat.lt_irrefl _ (H.out.tm.tb.rowlt _ e)⟩, ⟨Ne.symm (Nat.ne_of_lt H.out.rt.lt), fun e => Nat.lt_irrefl _ (H.out.rt.rowlt _ e)⟩⟩
      have H8 : Hid (Bo w _ B v C u m xs) := H.out.ahead kX
      have F8 : Hid (Quad _ wr.heap.size kind id c r) := hX
      clear kX hX H y0 y1 y2 y3
      generalize wr.alloc (.cells #[.int .i64 kind, .int .i64 id, .string ⟨c.toArray⟩, .string ⟨r.toArray⟩] 40) = w8 at *
      generalize wr.heap.size = X0 at *
      go_cut [5, 10, 11, 12, 13, 14, 15] from 60 to 119 (fun t _ _ _ _ _ _ wx => ∃ (B' : Nat) (v' u' : Value) (xs' : List La), t = .pointer (some ⟨B', 0, none⟩) ∧ Bo w wx B' v' C u' m xs')
      case first =>
        by_cases h1 : kind = 1
        · subst h1
          obtain ⟨d0, d1, d2, d3⟩ := F8.out
          have ca := ask_any H8.out.tm.tb c id
          have cr := fun W (k : Kept (fun _ => True) w8 W) => rask_any (H8.out.ahead k).rt c id
          generalize ask xs c id = q at ca cr
          go_wp2_with fail
          refine Calls.mono ca ?_
          rintro e w9 ⟨rfl, k9⟩
          have d1' := cell_kept k9 d1 trivial
          have d2' := cell_kept k9 d2 trivial
          clear ca d0 d1 d2 d3
          go_wp2_with fail
          refine Calls.mono (cr w9 k9) ?_
          rintro e w10 ⟨rfl, k10⟩
          have H10 : Hid (Bo w w10 B v C u m xs) := H8.out.ahead (k9.trans k10)
          clear cr d1' d2' k9 k10
          go_wp2_with fail
          go_meet
          exact ⟨B, v, u, xs, rfl, H10.out⟩
        · have e1 : (kind == 1) = false := by simpa using h1
          by_cases h2 : kind = 2
          · subst h2
            have kd : Kept (fun y => y = X0) w8 w8.drew := (Kept.refl _ _).drew
            have T8 : Hid (Bo w w8.drew B v C u m xs) := H8.out.ahead (Kept.refl _ _).drew
            have u1 : ∀ W, Kept (fun y => y = X0) w8 W → W.cell? ⟨X0, 1, none⟩ = some (.int .i64 id) := fun W k => cell_kept k F8.out.c1 rfl
            have u2 : ∀ W, Kept (fun y => y = X0) w8 W → W.cell? ⟨X0, 2, none⟩ = some (.string ⟨c.toArray⟩) := fun W k => cell_kept k F8.out.c2 rfl
            have u3 : ∀ W, Kept (fun y => y = X0) w8 W → W.cell? ⟨X0, 3, none⟩ = some (.string ⟨r.toArray⟩) := fun W k => cell_kept k F8.out.c3 rfl
            have GD : Hid (Good m (done m xs ⟨c, id, r⟩).2) := H8.out.good.done HF.out
            have c9 := done_tb T8.out.tm.tb (by have := H8.out.good.most; omega) (by omega) ⟨c, id, r⟩
            have c10 := fun W v' (s : PS w8.drew W B v v' m (done m xs ⟨c, id, r⟩).2) => rdone_tb (T8.out.left s) (by have := H8.out.good.most; omega) (by omega) ⟨c, id, r⟩
            generalize done m xs ⟨c, id, r⟩ = d at *
            simp only at c9 c10
            go_wp2_with fail
            go_region_held (fun W => Kept (fun y => y = X0) w8 W) (assumption) (first
              | (go_at_call 9; refine Calls.mono c9 ?_; rintro e w9 ⟨rfl, v9, s9⟩; have k9' : Kept (fun y => y = X0) w8 w9 := kd.trans (s9.kept.mono (fun _ _ q => by subst q; exact hXA.out.1)))
              | (go_at_call 18; refine Calls.mono (c10 _ _ s9) ?_; rintro e w10 ⟨rfl, v10, s10⟩; have k10' : Kept (fun y => y = X0) w8 w10 := k9'.trans (s10.kept.mono (fun _ _ q => by subst q; exact hXA.out.2)); have H10 : Hid (Bo w w10 B v9 C v10 m d.2) := T8.out.both s9 s10 GD.out; clear s10))
            all_goals
              go_wp2_with fail
              go_meet
              exact ⟨B, _, _, _, rfl, H10.out⟩
          · have e2 : (kind == 2) = false := by simpa using h2
            have cs := save_any H8.out.tm.tb H8.out.good.size
            have cl := fun W D (h : W.heap[D]? = some (.cells (cells (saved m xs)).toArray 5 (0, 0))) => load_to (w := W) (D := D) (m := m) h H8.out.good (saved m xs).length
            generalize (saved m xs) = SV at cs cl
            go_wp2_with fail
            refine Calls.mono cs ?_
            rintro e w9 ⟨D, rfl, hD, k9, -⟩
            have H9 : Hid (Bo w w9 B v C u m xs) := H8.out.ahead k9
            clear k9 cs
            go_wp2_with fail
            refine Calls.mono (cl _ _ hD) ?_
            rintro e w10 ⟨A, v10, rfl, h10⟩
            have H10 : Hid (Bo w w10 A v10 C u m xs) := H9.out.loaded h10
            clear h10 cl hD H9
            go_wp2_with fail
            go_meet
            exact ⟨A, v10, u, xs, rfl, H10.out⟩
      case rest =>
      obtain ⟨B', v', u', xs', rfl, h9⟩ := hcut
      have H9 : Hid (Bo w wc B' v' C u' m xs') := h9
      clear h9 H8 F8 hXA HF
      have hl9 : (xs'.map La.c).length ≤ 1000000 := by rw [List.length_map]; have := H9.out.good.most; omega
      go_wp2_with fail
      refine Calls.mono (clients_any H9.out.tm.tb) ?_
      rintro e w10 ⟨t10, rfl, h10, k10⟩
      have H10 : Hid (Bo w w10 B' v' C u' m xs') := H9.out.ahead k10
      have T10 : Hid (Txs w10 wc.heap.size t10 (xs'.map La.c)) := h10
      clear h10 k10
      go_wp2_with fail
      refine Calls.mono (rclients_any H10.out.rt) ?_
      rintro e w11 ⟨t11, rfl, h11, k11⟩
      have H11 : Hid (Bo w w11 B' v' C u' m xs') := H10.out.ahead k11
      have ct := texts_yes (T10.out.kept k11 (fun _ _ => trivial)) h11 hl9
      clear h11 k11 H10 T10
      go_wp2_with fail
      refine Calls.mono ct ?_
      rintro e w12 ⟨rfl, m12, rfl⟩
      have H12 : Hid (Bo w (w11.drewN m12) B' v' C u' m xs') := H11.out.ahead ((Kept.refl _ _).drewN _)
      clear ct
      go_wp2_with fail
      go_roundw
      case rel => exact ⟨i + 1, B', v', u', xs', by omega, rfl, by go_num, H12.out⟩
      case measure => simp [intOf]; omega
    · by_cases hin : i < na
      · obtain rfl : i = 100 := by omega
        have g3 : (100 : Int) < (na : Int) := by omega
        clear hlt
        go_wp2_with fail
        refine Calls.mono known_any ?_
        rintro e w3 ⟨rfl, k3⟩
        go_wp2_with fail
        go_ret
        exact ⟨rfl, H.out.tm.kept.trans k3⟩
      · have g3 : ¬ ((i : Int) < (na : Int)) := by omega
        clear hlt
        go_wp2_with fail
        refine Calls.mono known_any ?_
        rintro e w3 ⟨rfl, k3⟩
        go_wp2_with fail
        go_ret
        exact ⟨rfl, H.out.tm.kept.trans k3⟩

theorem dedupPlays_any {w : World} (z : Int) {a : Option Addr} {na ca : Nat} (ha : IsAsks w a na 1048576) :
    Calls Try.prog 4 #[.int .i64 z, .slice a na ca] w fun e w' => e = .returned (.bool true) ∧ Kept (fun _ => True) w w' := by
  by_cases h : z < 1 ∨ 64 < z
  · exact dedupPlays_bad z h
  · obtain ⟨m, rfl⟩ : ∃ m : Nat, z = m := ⟨z.toNat, by omega⟩
    exact dedupPlays_good m (by omega) (by omega) ha

end Go.Proofs.Ytihfcmcpapgokaa
