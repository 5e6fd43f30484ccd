/-
  The document's Accept: the walk.
-/
import Derived.Test.YtnogpjhcpdngcaaB12
namespace Go.Proofs.Ytnogpjhcpdngcaa
open Go.RowKit

set_option maxRecDepth 100000 in
set_option maxHeartbeats 6000000 in
theorem raccept_any {w : World} {E : Nat} {u : Value} {p : Bl} {L : List Vo} (h : Ra w E u p L) (b : Bl) (slot : Int) (v : ByteArray) (bad : Bool) (hbad : bad = (less b p || (decide (b.r = 0) && decide (b.n = 0)) || decide (slot < 0) || decide (512 ≤ slot))) (hmost : bad = false → (inserted slot ⟨slot, b, v⟩ L).length ≤ 512) :
    Calls Try.prog 22 #[.pointer (some ⟨E, 0, none⟩), .agg #[.int .i64 b.r, .int .i64 b.n], .int .i64 slot, .string v] w fun e w' => ∃ u', e = .returned (.bool (!bad)) ∧ Ra w' E u' (if bad = true then p else b) (if bad = true then L else inserted slot ⟨slot, b, v⟩ L) ∧ Kept (· ≠ E) w w' := by
  have HA : Hid (Ra w E u p L) := h
  have HM : Hid (bad = false → (inserted slot ⟨slot, b, v⟩ L).length ≤ 512) := hmost
  obtain ⟨aU, cU, rfl, gU⟩ := h.own.shape
  have GU : Hid (0 < L.length → ∃ g, aU = some ⟨g, 0, none⟩) := gU
  clear h hmost gU
  obtain ⟨br, bn⟩ := b
  simp only at hbad ⊢
  have c := fun W => rless_any (w := W) ⟨br, bn⟩ p
  simp only at c
  generalize less ⟨br, bn⟩ p = LL at c hbad
  go_enter Try.func22, Try.ntmps22
  go_upto_if 30 with fail
  have k1 : Kept (fun _ => True) w (w.alloc (.cells #[.int .i64 br, .int .i64 bn] 26)) := (Kept.refl _ _).alloc _
  have hb := heap_alloc_new w (.cells #[.int .i64 br, .int .i64 bn] 26)
  generalize w.alloc (.cells #[.int .i64 br, .int .i64 bn] 26) = w1 at *
  have hEB : E ≠ w.heap.size := Nat.ne_of_lt HA.out.lt
  generalize w.heap.size = B at hb hEB ⊢
  have ha := HA.out.all k1
  have Ha : Hid (Ra w1 E (.slice aU L.length cU) p L) := ha
  obtain ⟨c0, c1, c2, f0, f1, f2⟩ := acell ha.self
  obtain ⟨d0, d1⟩ := bcell hb
  have hc0 : ∀ W, Kept (fun _ => True) w1 W → W.cell? ⟨E, 0, none⟩ = some (.int .i64 p.r) := fun W k => cell_kept k c0 trivial
  have hc1 : ∀ W, Kept (fun _ => True) w1 W → W.cell? ⟨E, 1, none⟩ = some (.int .i64 p.n) := fun W k => cell_kept k c1 trivial
  have hd0 : ∀ W, Kept (fun _ => True) w1 W → W.cell? ⟨B, 0, none⟩ = some (.int .i64 br) := fun W k => cell_kept k d0 trivial
  have hd1 : ∀ W, Kept (fun _ => True) w1 W → W.cell? ⟨B, 1, none⟩ = some (.int .i64 bn) := fun W k => cell_kept k d1 trivial
  have kd : Kept (fun _ => True) w1 w1.drew := (Kept.refl _ _).drewN 1
  have HB : Hid (w1.heap[B]? = some (.cells #[.int .i64 br, .int .i64 bn] 26)) := hb
  clear ha c0 c1 c2 f0 f1 f2 d0 d1 hb
  go_cut [30] from 12 to 29 (fun t wx => t = .bool bad ∧ Kept (fun _ => True) w1 wx)
  case first =>
    cases LL
    case true =>
      have x0 := hd0 _ kd
      have x1 := hd1 _ kd
      have x2 := hc0 _ kd
      have x3 := hc1 _ kd
      go_wp2_with fail
      first
      | (go_region_with (first | (go_at_call 18; refine Calls.mono (c _) ?_; rintro e w2 ⟨rfl, k2⟩; have k2' : Kept (fun _ => True) w1 w2 := kd.trans k2)))
      | fail
      all_goals (go_wp2_with fail; go_meet; exact ⟨by simp [hbad], k2'⟩)
    case false =>
      by_cases hr : br = 0
      · subst hr
        by_cases hn : bn = 0
        · subst hn
          go_wp2_with fail
          first
          | (go_region_held (fun W => Kept (fun _ => True) w1 W) (assumption) (first | (go_at_call 18; refine Calls.mono (c _) ?_; rintro e w2 ⟨rfl, k2⟩; have k2' : Kept (fun _ => True) w1 w2 := kd.trans k2)))
          | fail
          all_goals (go_wp2_with fail; go_meet; exact ⟨by simp [hbad], k2'⟩)
        · cases h1 : decide (slot < 0)
          case true =>
            go_wp2_with fail
            first
            | (go_region_held (fun W => Kept (fun _ => True) w1 W) (assumption) (first | (go_at_call 18; refine Calls.mono (c _) ?_; rintro e w2 ⟨rfl, k2⟩; have k2' : Kept (fun _ => True) w1 w2 := kd.trans k2)))
            | fail
            all_goals (go_wp2_with fail; go_meet; exact ⟨by simp [hbad, hn, h1], k2'⟩)
          case false =>
            cases h2 : decide (512 ≤ slot)
            all_goals
              go_wp2_with fail
              first
              | (go_region_held (fun W => Kept (fun _ => True) w1 W) (assumption) (first | (go_at_call 18; refine Calls.mono (c _) ?_; rintro e w2 ⟨rfl, k2⟩; have k2' : Kept (fun _ => True) w1 w2 := kd.trans k2)))
              | fail
              all_goals (go_wp2_with fail; go_meet; exact ⟨by simp [hbad, hn, h1, h2], k2'⟩)
      · cases h1 : decide (slot < 0)
        case true =>
          go_wp2_with fail
          first
          | (go_region_held (fun W => Kept (fun _ => True) w1 W) (assumption) (first | (go_at_call 18; refine Calls.mono (c _) ?_; rintro e w2 ⟨rfl, k2⟩; have k2' : Kept (fun _ => True) w1 w2 := kd.trans k2)))
          | fail
          all_goals (go_wp2_with fail; go_meet; exact ⟨by simp [hbad, hr, h1], k2'⟩)
        case false =>
          cases h2 : decide (512 ≤ slot)
          all_goals
            go_wp2_with fail
            first
            | (go_region_held (fun W => Kept (fun _ => True) w1 W) (assumption) (first | (go_at_call 18; refine Calls.mono (c _) ?_; rintro e w2 ⟨rfl, k2⟩; have k2' : Kept (fun _ => True) w1 w2 := kd.trans k2)))
            | fail
            all_goals (go_wp2_with fail; go_meet; exact ⟨by simp [hbad, hr, h1, h2], k2'⟩)
  case rest =>
  obtain ⟨ht, kc⟩ := hcut
  subst ht
  clear c kd hc0 hc1
  cases hbd : bad
  · have HI : Hid ((inserted slot ⟨slot, ⟨br, bn⟩, v⟩ L).length ≤ 512) := HM.out hbd
    subst hbd
    clear hbad HM
    have hLm := HA.out.most
    have e0 := hd0 _ kc
    have e1 := hd1 _ kc
    have ha := Ha.out.all kc
    obtain ⟨c0, c1, c2, f0, f1, f2⟩ := acell ha.self
    have hp := ha.promise ⟨br, bn⟩
    simp only at hp
    have HP : Hid (Ra _ E (.slice aU L.length cU) ⟨br, bn⟩ L) := hp.1
    have x0 := cell_kept hp.2 e0 (Ne.symm hEB)
    have x1 := cell_kept hp.2 e1 (Ne.symm hEB)
    have K3 : Hid (Kept (· ≠ E) w _) := ((k1.trans kc).mono (fun _ _ _ => trivial)).trans hp.2
    clear hd0 hd1 hp ha Ha HB kc k1 HA
    go_wp2_with fail
    clear e0 e1 c0 c1 c2 f0 f1 f2
    generalize (wc.setCell ⟨E, 0, none⟩ (.int .i64 br)).setCell ⟨E, 1, none⟩ (.int .i64 bn) = w3 at *
    have HB3 : Hid (w3.cell? ⟨B, 0, none⟩ = some (.int .i64 br) ∧ w3.cell? ⟨B, 1, none⟩ = some (.int .i64 bn)) := ⟨x0, x1⟩
    clear x0 x1
    go_loopw [9, 10, 11] (fun t d x wr => ∃ (i : Nat), x = .int .i64 i ∧ i ≤ L.length ∧ d = .bool (insAll slot ⟨slot, ⟨br, bn⟩, v⟩ (L.take i)).2 ∧ VR wr t (insAll slot ⟨slot, ⟨br, bn⟩, v⟩ (L.take i)).1 ∧ (insAll slot ⟨slot, ⟨br, bn⟩, v⟩ (L.take i)).1.length ≤ 2 * i ∧ Kept (fun _ => True) w3 wr ∧ (∀ b, t.ownBlock = some b → w3.heap.size ≤ b)) (fun _ _ x _ => L.length - (intOf x).toNat)
    case atStart => exact ⟨0, rfl, Nat.zero_le _, rfl, VR.nil _, Nat.zero_le _, Kept.refl _ _, fun b hb => by simp [Value.ownBlock] at hb⟩
    case round =>
      obtain ⟨i, rfl, hi, rfl, hv, hlen, hk, hnew⟩ := hrel
      obtain ⟨ao, cap, rfl, -⟩ := hv.shape
      have ha := HP.out.all hk
      obtain ⟨c0, c1, c2, f0, f1, f2⟩ := acell ha.self
      have b0 := cell_kept hk HB3.out.1 trivial
      have b1 := cell_kept hk HB3.out.2 trivial
      have HV : Hid (VR wr (.slice ao (insAll slot ⟨slot, ⟨br, bn⟩, v⟩ (L.take i)).1.length cap) (insAll slot ⟨slot, ⟨br, bn⟩, v⟩ (L.take i)).1) := hv
      clear hv c0 c1 f0 f1
      by_cases hlt : i < L.length
      · obtain ⟨G, rfl⟩ := GU.out (by omega)
        obtain ⟨y0, y1, y2, y3⟩ := ha.own.cells i hlt
        have HS := insAll_step slot ⟨slot, ⟨br, bn⟩, v⟩ hlt
        have g1 : (i : Int) < (L.length : Int) := by omega
        have g0 : (0 : Int) ≤ (i : Int) := by omega
        have hGr : Hid (VR wr (.slice (some ⟨G, 0, none⟩) L.length cU) L) := ha.own
        clear ha f2
        generalize hnx : insAll slot ⟨slot, ⟨br, bn⟩, v⟩ (L.take (i + 1)) = nxt at *
        generalize hcu : insAll slot ⟨slot, ⟨br, bn⟩, v⟩ (L.take i) = st at *
        obtain ⟨o, d⟩ := st
        generalize L[i] = y at *
        obtain ⟨ys, ⟨yr, yn⟩, yv⟩ := y
        simp only at y0 y1 y2 y3 hlen HV ⊢
        have HSx : Hid (nxt = ins2 slot (ins1 slot ⟨slot, ⟨br, bn⟩, v⟩ (o, d) ⟨ys, ⟨yr, yn⟩, yv⟩) ⟨ys, ⟨yr, yn⟩, yv⟩) := HS
        clear HS hcu
        have hE3 : E < w3.heap.size := HP.out.lt
        have hG3 : G < w3.heap.size := by
          rcases HP.out.own.2 with ⟨q, _⟩ | ⟨g, cap', cur, q, _, hg, _⟩
          · simp at q
          · simp at q
            rw [q.1]
            exact lt_of_block hg
        clear hGr
        cases d
        · by_cases hy : slot ≤ ys
          · by_cases hq : ys = slot
            · subst hq
              have HN : Hid (nxt = (o ++ [⟨ys, ⟨br, bn⟩, v⟩], true)) := by
                show _ = _
                rw [HSx.out, ins1_yes rfl (Int.le_refl ys)]
                exact ins2_same (s := ys) (y := ⟨ys, ⟨yr, yn⟩, yv⟩) rfl
              clear HSx
              go_wp2_with (at_builtin; refine wpList_append_vote rfl _ _ rfl (.slice ao o.length cap) _ o rfl rfl (HV.out.all ((Kept.refl _ _).alloc _)) _ rfl ⟨ys, ⟨br, bn⟩, v⟩ (0, 0) (heap_alloc_new _ _) (by omega) ?_; intro ao' cap' w4 hown hgrow hat; have k4 : Kept (fun x => x < w3.heap.size) wr w4 := ((Kept.refl _ _).alloc _).grown hgrow (fun b _ e hb => by have := hnew b e; omega); have d2 := cell_kept k4 c2 hE3; have q0 := cell_kept k4 y0 hG3; have q1 := cell_kept k4 y1 hG3; have q2 := cell_kept k4 y2 hG3; have q3 := cell_kept k4 y3 hG3)
              go_wp2_with fail
              have k5 : Kept (fun _ => True) w3 w4 := (hk.alloc _).grown hgrow (fun b hb e _ => by have := hnew b e; omega)
              go_roundw
              case rel =>
                refine ⟨i + 1, by go_num, by omega, by rw [hnx, HN.out], ?_, ?_, k5, fun b hb => ?_⟩
                · rw [hnx, HN.out]; simpa [VR] using hown
                · rw [hnx, HN.out]; simp; omega
                · rcases hat with h | h
                  · exact hnew b (h.symm.trans hb)
                  · rw [h] at hb; cases hb; have := hk.size; simp; omega
              case measure => simp [intOf]; omega
            · have hq1 : (ys == slot) = false := by simpa using hq
              have HN : Hid (nxt = (o ++ [⟨slot, ⟨br, bn⟩, v⟩] ++ [⟨ys, ⟨yr, yn⟩, yv⟩], true)) := by
                show _ = _
                rw [HSx.out, ins1_yes rfl hy, ins2_other hq]
              clear HSx
              go_wp2_with (first
                | (at_builtin; refine wpList_append_vote rfl _ _ rfl (.slice ao o.length cap) _ o rfl rfl (HV.out.all ((Kept.refl _ _).alloc _)) _ rfl ⟨slot, ⟨br, bn⟩, v⟩ (0, 0) (heap_alloc_new _ _) (by omega) ?_; intro ao' cap' w4 hown hgrow hat; have k4 : Kept (fun x => x < w3.heap.size) wr w4 := ((Kept.refl _ _).alloc _).grown hgrow (fun b _ e hb => by have := hnew b e; omega); have d2 := cell_kept k4 c2 hE3; have q0 := cell_kept k4 y0 hG3; have q1 := cell_kept k4 y1 hG3; have q2 := cell_kept k4 y2 hG3; have q3 := cell_kept k4 y3 hG3)
                | (at_builtin; refine wpList_append_vote rfl _ _ rfl (.slice ao' (o.length + 1) cap') _ (o ++ [⟨slot, ⟨br, bn⟩, v⟩]) rfl (by simp) (vown_kept hown ((Kept.refl (fun _ => True) _).alloc _) (fun _ _ => trivial)) _ rfl ⟨ys, ⟨yr, yn⟩, yv⟩ (0, 0) (heap_alloc_new _ _) (by omega) ?_; intro ao5 cap5 w5 hown5 hgrow5 hat5))
              go_wp2_with fail
              have n4 : ∀ b, (Value.slice ao' (o.length + 1) cap').ownBlock = some b → w3.heap.size ≤ b := fun b hb => by
                rcases hat with h | h
                · exact hnew b (h.symm.trans hb)
                · rw [h] at hb; cases hb; have := hk.size; simp; omega
              have k5 : Kept (fun _ => True) w3 w4 := (hk.alloc _).grown hgrow (fun b hb e _ => by have := hnew b e; omega)
              have k6 : Kept (fun _ => True) w3 w5 := (k5.alloc _).grown hgrow5 (fun b hb e _ => by have := n4 b e; omega)
              go_roundw
              case rel =>
                refine ⟨i + 1, by go_num, by omega, by rw [hnx, HN.out], ?_, ?_, k6, fun b hb => ?_⟩
                · rw [hnx, HN.out]; simpa [VR] using hown5
                · rw [hnx, HN.out]; simp; omega
                · rcases hat5 with h | h
                  · exact n4 b (h.symm.trans hb)
                  · rw [h] at hb; cases hb; have := k5.size; simp; omega
              case measure => simp [intOf]; omega
          · have hq : ¬ ys = slot := by omega
            have hq1 : (ys == slot) = false := by simpa using hq
            have HN : Hid (nxt = (o ++ [⟨ys, ⟨yr, yn⟩, yv⟩], false)) := by
              show _ = _
              rw [HSx.out, ins1_no (.inr hy), ins2_other hq]
            clear HSx
            go_wp2_with (at_builtin; refine wpList_append_vote rfl _ _ rfl (.slice ao o.length cap) _ o rfl rfl (HV.out.all ((Kept.refl _ _).alloc _)) _ rfl ⟨ys, ⟨yr, yn⟩, yv⟩ (0, 0) (heap_alloc_new _ _) (by omega) ?_; intro ao' cap' w4 hown hgrow hat)
            go_wp2_with fail
            have k5 : Kept (fun _ => True) w3 w4 := (hk.alloc _).grown hgrow (fun b hb e _ => by have := hnew b e; omega)
            go_roundw
            case rel =>
              refine ⟨i + 1, by go_num, by omega, by rw [hnx, HN.out], ?_, ?_, k5, fun b hb => ?_⟩
              · rw [hnx, HN.out]; simpa [VR] using hown
              · rw [hnx, HN.out]; simp; omega
              · rcases hat with h | h
                · exact hnew b (h.symm.trans hb)
                · rw [h] at hb; cases hb; have := hk.size; simp; omega
            case measure => simp [intOf]; omega
        · by_cases hq : ys = slot
          · subst hq
            have HN : Hid (nxt = (o, true)) := by
              show _ = _
              rw [HSx.out, ins1_no (.inl rfl)]
              exact ins2_same (s := ys) (y := ⟨ys, ⟨yr, yn⟩, yv⟩) rfl
            clear HSx
            go_wp2_with fail
            go_roundw
            case rel =>
              refine ⟨i + 1, by go_num, by omega, by rw [hnx, HN.out], ?_, ?_, hk, hnew⟩
              · rw [hnx, HN.out]; exact HV.out
              · rw [hnx, HN.out]; simp only; omega
            case measure => simp [intOf]; omega
          · have hq1 : (ys == slot) = false := by simpa using hq
            have HN : Hid (nxt = (o ++ [⟨ys, ⟨yr, yn⟩, yv⟩], true)) := by
              show _ = _
              rw [HSx.out, ins1_no (.inl rfl), ins2_other hq]
            clear HSx
            go_wp2_with (at_builtin; refine wpList_append_vote rfl _ _ rfl (.slice ao o.length cap) _ o rfl rfl (HV.out.all ((Kept.refl _ _).alloc _)) _ rfl ⟨ys, ⟨yr, yn⟩, yv⟩ (0, 0) (heap_alloc_new _ _) (by omega) ?_; intro ao' cap' w4 hown hgrow hat)
            go_wp2_with fail
            have k5 : Kept (fun _ => True) w3 w4 := (hk.alloc _).grown hgrow (fun b hb e _ => by have := hnew b e; omega)
            go_roundw
            case rel =>
              refine ⟨i + 1, by go_num, by omega, by rw [hnx, HN.out], ?_, ?_, k5, fun b hb => ?_⟩
              · rw [hnx, HN.out]; simpa [VR] using hown
              · rw [hnx, HN.out]; simp; omega
              · rcases hat with h | h
                · exact hnew b (h.symm.trans hb)
                · rw [h] at hb; cases hb; have := hk.size; simp; omega
            case measure => simp [intOf]; omega
      · have hie : i = L.length := by omega
        subst hie
        have HA5 : Hid (Ra wr E (.slice aU L.length cU) ⟨br, bn⟩ L) := ha
        clear ha
        rw [List.take_length] at HV hlen hnew ⊢
        generalize hst : insAll slot ⟨slot, ⟨br, bn⟩, v⟩ L = st at *
        obtain ⟨o, d⟩ := st
        simp only at HV hlen hnew ⊢
        cases d
        · have HN : Hid (inserted slot ⟨slot, ⟨br, bn⟩, v⟩ L = o ++ [⟨slot, ⟨br, bn⟩, v⟩]) := by
            show _ = _
            unfold inserted
            rw [hst]
            rfl
          clear hst
          go_wp2_with (at_builtin; refine wpList_append_vote rfl _ _ rfl (.slice ao o.length cap) _ o rfl rfl (HV.out.all ((Kept.refl _ _).alloc _)) _ rfl ⟨slot, ⟨br, bn⟩, v⟩ (0, 0) (heap_alloc_new _ _) (by omega) ?_; intro ao' cap' w4 hown hgrow hat; have k4 : Kept (fun x => x < w3.heap.size) wr w4 := ((Kept.refl _ _).alloc _).grown hgrow (fun b _ e hb => by have := hnew b e; omega); have A4 := HA5.out.kept k4 HP.out.lt (fun x hx => (HP.out.own.lt x hx).2); have ⟨z0, z1, z2, zf0, zf1, zf2⟩ := acell A4.self)
          go_ret
          have hv4 : VR w4 (.slice ao' (o.length + 1) cap') (inserted slot ⟨slot, ⟨br, bn⟩, v⟩ L) := by
            rw [HN.out]
            simpa [VR] using hown
          obtain ⟨h6, k6⟩ := A4.swap hv4 HI.out
          have k5 : Kept (fun _ => True) w3 w4 := (hk.alloc _).grown hgrow (fun b hb e _ => by have := hnew b e; omega)
          exact ⟨rfl, ⟨_, h6⟩, K3.out.trans ((k5.mono (fun _ _ _ => trivial)).trans k6)⟩
        · have HN : Hid (inserted slot ⟨slot, ⟨br, bn⟩, v⟩ L = o) := by
            show _ = _
            unfold inserted
            rw [hst]
            rfl
          clear hst
          go_wp2_with fail
          go_ret
          have hv4 : VR wr (.slice ao o.length cap) (inserted slot ⟨slot, ⟨br, bn⟩, v⟩ L) := by
            rw [HN.out]
            exact HV.out
          obtain ⟨h6, k6⟩ := HA5.out.swap hv4 HI.out
          exact ⟨rfl, ⟨_, h6⟩, K3.out.trans ((hk.mono (fun _ _ _ => trivial)).trans k6)⟩
  · subst hbd
    clear hbad
    go_wp2
    go_ret
    exact ⟨rfl, ⟨_, HA.out.all (k1.trans kc)⟩, (k1.trans kc).mono (fun _ _ _ => trivial)⟩

end Go.Proofs.Ytnogpjhcpdngcaa
