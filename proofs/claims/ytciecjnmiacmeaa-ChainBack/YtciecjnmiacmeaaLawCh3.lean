/-
  ChainBack: it answers true for all texts.
-/
import Derived.Test.YtciecjnmiacmeaaZ10
import Derived.Test.YtciecjnmiacmeaaZ12
import Derived.Test.YtciecjnmiacmeaaMGz
import Derived.Test.YtciecjnmiacmeaaSWithin
namespace Go.Proofs.Ytciecjnmiacmeaa
open Go.RowKit

set_option maxRecDepth 100000 in
set_option maxHeartbeats 4000000 in
theorem chainBack_any {w : World} {ao : Option Addr} {cap : Nat} {ss : List (List UInt8)} (h : Tv w ao ss) (cut : Int) :
    Calls Try.prog 5 #[.slice ao ss.length cap, .int .i64 cut] w fun e w' => e = .returned (.bool true) ∧ Kept (fun _ => True) w w' := by
  have CF := fewL_any (cap := cap) 10 (by decide) h
  obtain ⟨T, hT⟩ : ∃ T, T = fewP ss 10 := ⟨_, rfl⟩
  have sT : ∀ s ∈ T, s.length ≤ 100 := fun s hs => by rw [hT] at hs; exact fewP_short hs
  have lT : T.length ≤ 10 := by rw [hT, fewP_length]; omega
  rw [← hT] at CF
  clear hT h
  obtain ⟨N, hN⟩ : ∃ N, T.length = N := ⟨_, rfl⟩
  have lk : (mkC T).length = N := by rw [mkC_length, hN]
  have sL : ∀ x ∈ mkC T, x.t.length ≤ 4000 := fun x hx => by have := few_short hx sT; omega
  have wL : wgt (mkC T) ≤ 100000 := by
    have h1 := wgt_few (mkC T) sL
    rw [lk] at h1
    have h2 : N * (4000 + 36) ≤ 10 * (4000 + 36) := Nat.mul_le_mul_right _ (by omega)
    omega
  have CM : ∀ (W : World) (a : Option Addr) (c : Nat), Tv W a T → Calls Try.prog 8 #[.slice a N c] W fun e w' => ∃ a' c', e = .returned (.slice a' N c') ∧ Lo 27 w' W.heap.size (.slice a' N c') (mkC T) ∧ Kept (fun _ => True) W w' := fun W a c hv => by
    have := make_any (cap := c) hv (by omega) (fun t ht => by have := sT t ht; omega)
    rwa [mkC_length, hN] at this
  have CE : ∀ (W : World) (a : Option Addr) (c : Nat), Lv W a (mkC T) → Calls Try.prog 10 #[.slice a N c] W fun e w' => ∃ D, e = .returned (.slice (some ⟨D, 0, none⟩) (encL (mkC T)).length (encL (mkC T)).length) ∧ w'.heap[D]? = some (.cells (cells (encL (mkC T))).toArray 5 (0, 0)) ∧ Kept (fun _ => True) W w' := fun W a c h => by
    have := encode_any (cap := c) h (by omega) (by omega)
    rw [lk] at this
    refine this.mono ?_
    rintro e w' ⟨D, rfl, hD, k, _⟩
    exact ⟨D, rfl, hD, k⟩
  have CD : ∀ (W : World) (g : Nat), W.heap[g]? = some (.cells (cells (encL (mkC T))).toArray 5 (0, 0)) → Calls Try.prog 9 #[.slice (some ⟨g, 0, none⟩) (encL (mkC T)).length (encL (mkC T)).length] W fun e w' => ∃ a' c', e = .returned (.tuple #[.slice a' N c', .int .i64 0, .int .i64 0]) ∧ Lo 27 w' W.heap.size (.slice a' N c') (mkC T) ∧ Kept (fun _ => True) W w' := fun W g hg => by
    have := decode_any (cap := (encL (mkC T)).length) (has_row hg) (by rw [encL_len]; omega)
    refine this.mono ?_
    rintro e w' ⟨xs, y, z, a', c', rfl, hd, ho, k⟩
    obtain ⟨n, hn, _, h2⟩ := hd.back (by omega) sL
    have := hn.one (IsChk.mk' T)
    subst this
    obtain ⟨rfl, rfl, rfl⟩ := h2 (mkC_length _).symm
    rw [lk] at ho ⊢
    exact ⟨a', c', rfl, ho, k⟩
  have CC : ∀ (k : Nat), k ≤ N → ∀ (W : World) (a : Option Addr) (c : Nat), Lv W a (mkC T) → Calls Try.prog 11 #[.slice a k c] W fun e w' => e = .returned (.int .i64 k) ∧ Kept (fun _ => True) W w' := fun k hk W a c h => by
    have e1 : (mkC T).take k = mkC (T.take k) := mkC_take T k
    have e2 : (mkC (T.take k)).length = k := by rw [mkC_length, List.length_take]; omega
    have h2 := h.take k
    rw [e1] at h2
    have := check_any (cap := c) h2 (by omega) (fun x hx => by
      have := few_short hx (fun s hs => sT s (List.mem_of_mem_take hs))
      omega)
    rw [e2] at this
    refine this.mono ?_
    rintro e w' ⟨n, rfl, hn, kk⟩
    have := hn.one (IsChk.mk' (T.take k))
    subst this
    refine ⟨?_, kk⟩
    rw [List.length_take, Nat.min_eq_left (by omega)]
  have CP : ∀ (k : Nat), k ≤ N → ∀ (W : World) (a : Option Addr) (c : Nat), N ≤ c → Lv W a (mkC T) → (Calls Try.prog 21 #[.slice a k c, .slice a N c] W fun e w' => e = .returned (.bool true) ∧ Kept (fun _ => True) W w') ∧ (Calls Try.prog 21 #[.slice a N c, .slice a k c] W fun e w' => e = .returned (.bool true) ∧ Kept (fun _ => True) W w') := fun k hk W a c hc h => by
    have e2 : ((mkC T).take k).length = k := by rw [List.length_take, lk]; omega
    have h1 := prefix_any (c1 := c) (c2 := c) (h.take k) h (by omega) (by omega) (by omega) (by omega)
    have h2 := prefix_any (c1 := c) (c2 := c) h (h.take k) (by omega) (by omega) (by omega) (by omega)
    rw [e2, lk] at h1 h2
    refine ⟨h1.mono ?_, h2.mono ?_⟩
    · rintro e w' ⟨b, rfl, hb, kk⟩
      rw [hb.2 (pre_take _ k)]
      exact ⟨rfl, kk⟩
    · rintro e w' ⟨b, rfl, hb, kk⟩
      rw [hb.2 (pre_take' _ k)]
      exact ⟨rfl, kk⟩
  rw [hN] at CF
  have LT : Hid (T.length = N) := hN
  clear sL wL sT
  have CW := fun (W : World) => within_any (w := W) cut N (by omega)
  go_enter Try.func5, Try.ntmps5
  go_wp2_with (first
    | (go_at_call 15; (with_reducible refine Calls.mono CF ?_); rintro e w1 ⟨a1, c1, rfl, ht1, k1⟩; have T1 : Hid (Txs w1 w.heap.size (.slice a1 N c1) T) := ht1; clear ht1)
    | (go_at_call 8; (with_reducible refine Calls.mono (CM w1 a1 c1 T1.out.tv) ?_); rintro e w2 ⟨a2, c2, rfl, ho2, k2⟩; have H2 : Hid (Lo 27 w2 w1.heap.size (.slice a2 N c2) (mkC T)) := ho2; clear ho2)
    | (go_at_call 10; (with_reducible refine Calls.mono (CE w2 a2 c2 H2.out.view) ?_); rintro e w3 ⟨D3, rfl, hD3, k3⟩)
    | (go_at_call 9; (with_reducible refine Calls.mono (CD w3 D3 hD3) ?_); rintro e w4 ⟨a5, c5, rfl, ho5, k4⟩; have H5 : Hid (Lo 27 w4 w3.heap.size (.slice a5 N c5) (mkC T)) := ho5; clear ho5))
  have hc2 : N ≤ c2 := by
    obtain ⟨_, _, e0, hc, _, _⟩ := H2.out.shape
    injection e0 with _ _ e3
    rw [lk, ← e3] at hc
    exact hc
  have KW : Hid (Kept (fun _ => True) w w4) := ((k1.trans k2).trans k3).trans k4
  have V2 : Hid (Lv w4 a2 (mkC T)) := (H2.out.view.all k3).all k4
  have T4 : Hid (Tv w4 a1 T) := ((T1.out.tv.all k2).all k3).all k4
  have hge5 : Hid (0 < N → (∃ g, a2 = some ⟨g, 0, none⟩ ∧ g < w4.heap.size) ∧ ∃ g, a5 = some ⟨g, 0, none⟩ ∧ g < w4.heap.size) := fun h0 => by
    obtain ⟨g, e1, _, h1, _⟩ := (H2.out.all (k3.trans k4)).some3 h0
    obtain ⟨g', e2, _, h2, _⟩ := H5.out.some3 h0
    exact ⟨⟨g, e1, h1⟩, g', e2, h2⟩
  have V5 : Hid (Lv w4 a5 (mkC T)) := H5.out.view
  clear T1 H2 hD3 k1 k2 k3 k4 H5 CF CM CE CD
  go_wp2_with fail
  refine Calls.mono (CW _) ?_
  rintro e w5 ⟨⟨k, hk, rfl⟩, rfl⟩
  clear CW
  have s1 := cut_links a2 N c2 k hk hc2
  have CC1 := CC N (Nat.le_refl _)
  have CC2 := CC k hk
  have CP1 := fun (W : World) (h : Lv W a2 (mkC T)) => (CP k hk W a2 c2 hc2 h).1
  have CP2 := fun (W : World) (h : Lv W a2 (mkC T)) => (CP k hk W a2 c2 hc2 h).2
  clear CC CP
  go_wp2_with (first
    | (go_at_call 11; (with_reducible refine Calls.mono (CC1 w5 a2 c2 V2.out) ?_); rintro e w6 ⟨rfl, k6⟩; have V6 : Hid (Lv w6 a2 (mkC T)) := V2.out.all k6)
    | (go_at_call 11; (with_reducible refine Calls.mono (CC2 w6 a2 c2 V6.out) ?_); rintro e w7 ⟨rfl, k7⟩; have V7 : Hid (Lv w7 a2 (mkC T)) := V6.out.all k7)
    | (go_at_call 21; (with_reducible refine Calls.mono (CP1 w7 V7.out) ?_); rintro e w8 ⟨rfl, k8⟩; have V8 : Hid (Lv w8 a2 (mkC T)) := V7.out.all k8)
    | (go_at_call 21; (with_reducible refine Calls.mono (CP2 w8 V8.out) ?_); rintro e w9 ⟨rfl, k9⟩))
  have K9 : Hid (Kept (fun _ => True) w5 w9) := ((k6.trans k7).trans k8).trans k9
  clear V6 V7 V8 k6 k7 k8 k9 CC1 CC2 CP1 CP2 s1
  go_loopw [10] (fun t wr => ∃ i : Nat, i ≤ N ∧ t = .int .i64 i ∧ Kept (fun _ => True) w5 wr) (fun t _ => N - (intOf t).toNat)
  case atStart => exact ⟨0, Nat.zero_le _, rfl, K9.out⟩
  case round =>
    obtain ⟨i, hi, rfl, kr⟩ := hrel
    by_cases hlt : i < N
    · as_aux_lemma =>
        have hlT : i < T.length := by have := LT.out; omega
        obtain ⟨w6, hw6⟩ : ∃ x, x = wr := ⟨_, rfl⟩
        rw [← hw6] at kr ⊢
        have K6 : Hid (Kept (fun _ => True) w5 w6) := kr
        clear hw6
        obtain ⟨b1, o1, rfl, hb1, hc1⟩ := T4.out (by omega)
        obtain ⟨⟨g2, rfl, hg2⟩, g5, rfl, hg5⟩ := hge5.out (by omega)
        obtain ⟨_, _, e2, _, hv2⟩ := (V2.out.all kr).row (by rw [lk]; omega)
        injection e2 with e2
        injection e2 with e21 e22 e23
        subst e21 e22
        obtain ⟨_, _, e5, _, hv5⟩ := (V5.out.all kr).row (by rw [lk]; omega)
        injection e5 with e5
        injection e5 with e51 e52 e53
        subst e51 e52
        have hr2 := hv2 i (by rw [lk]; exact hlt)
        have hr5 := hv5 i (by rw [lk]; exact hlt)
        rw [Nat.zero_add] at hr2 hr5
        have htx : ((mkC T)[i]'(by rw [lk]; exact hlt)).t = T[i] := by rw [mkC_get T i hlT]
        have c0 := hc1 i hlT
        rw [← htx] at c0
        replace hg2 := Nat.lt_of_lt_of_le hg2 kr.size
        replace hg5 := Nat.lt_of_lt_of_le hg5 kr.size
        have he := fun (w0 : World) => eqP ((mkC T)[i]'(by rw [lk]; exact hlt)) ((mkC T)[i]'(by rw [lk]; exact hlt)) w0
        have hbb : (((mkC T)[i]'(by rw [lk]; exact hlt)).t == ((mkC T)[i]'(by rw [lk]; exact hlt)).t && ((mkC T)[i]'(by rw [lk]; exact hlt)).h == ((mkC T)[i]'(by rw [lk]; exact hlt)).h) = true := li_beq.2 rfl
        rw [hbb] at he
        clear hbb htx hc1 hv2 hv5
        generalize (mkC T)[i]'(by rw [lk]; exact hlt) = x at *
        have ct : ∀ W, Kept (fun _ => True) w6 W → W.cell? ⟨b1, o1 + i, none⟩ = some (.string ⟨x.t.toArray⟩) := fun W hW => (kept_cell hW (Nat.lt_of_lt_of_le hb1 kr.size) trivial).trans ((kept_cell kr hb1 trivial).trans c0)
        have cx : ∀ W, Kept (fun _ => True) w6 W → W.cell? ⟨g2, i * 33, none⟩ = some (.string ⟨x.t.toArray⟩) := fun W hW => range_text (range_kept hr2 hW hg2 trivial)
        have ix : (Try.prog.info? 27).map (·.size) = some (lcell x).length := by rw [linkP.size, lcell_length]
        have i0 : (0 : Int) ≤ (i : Int) := by omega
        have i1 : (i : Int) < (N : Int) := by omega
        have hgd := guardP
        clear c0 kr
        go_wp2
        have kd6 : Kept (fun _ => True) w6 w6.drew := (Kept.refl _ _).drew
        refine Gz.begin (fun W => Kept (fun _ => True) w6 W) (fun _ => false) (by kernel_rfl) ?_
        refine Gz.take (i := 0) (oi := { dst := some 72, op := Op.move (Operand.tmp 6), type := 22, pos := _, after := _, guard := none }) (v := ?_) rfl (by kernel_rfl) (by kernel_rfl) (by kernel_rfl) (by kernel_rfl) (fun _ _ _ h => h) (Or.inl ⟨by rfl, ?hy0⟩) kd6 ?_
        case hy0 => (intro W hSw; (try dsimp only at hSw); go_simp; try with_reducible rfl)
        try simp only [Act.put, List.setIfInBounds_toArray, List.set_cons_zero, List.set_cons_succ]
        refine Gz.take (i := 1) (oi := { dst := some 73, op := Op.move (Operand.tmp 10), type := 3, pos := _, after := _, guard := none }) (v := ?_) rfl (by kernel_rfl) (by kernel_rfl) (by kernel_rfl) (by kernel_rfl) (fun _ _ _ h => h) (Or.inl ⟨by rfl, ?hy1⟩) kd6 ?_
        case hy1 => (intro W hSw; (try dsimp only at hSw); go_simp; try with_reducible rfl)
        try simp only [Act.put, List.setIfInBounds_toArray, List.set_cons_zero, List.set_cons_succ]
        refine Gz.take (i := 2) (oi := { dst := some 74, op := Op.indexAddr 22 (Operand.tmp 72) (Operand.tmp 73), type := 0, pos := _, after := _, guard := none }) (v := ?_) rfl (by kernel_rfl) (by kernel_rfl) (by kernel_rfl) (by kernel_rfl) (fun _ _ _ h => h) (Or.inl ⟨by rfl, ?hy2⟩) kd6 ?_
        case hy2 => (intro W hSw; (try dsimp only at hSw); go_simp; try with_reducible rfl)
        try simp only [Act.put, List.setIfInBounds_toArray, List.set_cons_zero, List.set_cons_succ]
        refine Gz.take (i := 3) (oi := { dst := some 75, op := Op.load 27 (Operand.tmp 74), type := 27, pos := _, after := _, guard := none }) (v := _) rfl (by kernel_rfl) (by kernel_rfl) (by kernel_rfl) (by kernel_rfl) (fun _ _ _ h => h) (yieldsIf_load_mid (by rfl) _ _ rfl (g5) (i * 33) rfl (lcell x) _ (fun W hW => range_kept hr5 hW hg5 trivial) Try.underlying27 rfl (ix)) kd6 ?_
        try simp only [Act.put, List.setIfInBounds_toArray, List.set_cons_zero, List.set_cons_succ]
        refine Gz.take (i := 4) (oi := { dst := some 76, op := Op.move (Operand.tmp 5), type := 22, pos := _, after := _, guard := none }) (v := ?_) rfl (by kernel_rfl) (by kernel_rfl) (by kernel_rfl) (by kernel_rfl) (fun _ _ _ h => h) (Or.inl ⟨by rfl, ?hy4⟩) kd6 ?_
        case hy4 => (intro W hSw; (try dsimp only at hSw); go_simp; try with_reducible rfl)
        try simp only [Act.put, List.setIfInBounds_toArray, List.set_cons_zero, List.set_cons_succ]
        refine Gz.take (i := 5) (oi := { dst := some 77, op := Op.move (Operand.tmp 10), type := 3, pos := _, after := _, guard := none }) (v := ?_) rfl (by kernel_rfl) (by kernel_rfl) (by kernel_rfl) (by kernel_rfl) (fun _ _ _ h => h) (Or.inl ⟨by rfl, ?hy5⟩) kd6 ?_
        case hy5 => (intro W hSw; (try dsimp only at hSw); go_simp; try with_reducible rfl)
        try simp only [Act.put, List.setIfInBounds_toArray, List.set_cons_zero, List.set_cons_succ]
        refine Gz.take (i := 6) (oi := { dst := some 78, op := Op.indexAddr 22 (Operand.tmp 76) (Operand.tmp 77), type := 0, pos := _, after := _, guard := none }) (v := ?_) rfl (by kernel_rfl) (by kernel_rfl) (by kernel_rfl) (by kernel_rfl) (fun _ _ _ h => h) (Or.inl ⟨by rfl, ?hy6⟩) kd6 ?_
        case hy6 => (intro W hSw; (try dsimp only at hSw); go_simp; try with_reducible rfl)
        try simp only [Act.put, List.setIfInBounds_toArray, List.set_cons_zero, List.set_cons_succ]
        refine Gz.take (i := 7) (oi := { dst := some 79, op := Op.load 27 (Operand.tmp 78), type := 27, pos := _, after := _, guard := none }) (v := _) rfl (by kernel_rfl) (by kernel_rfl) (by kernel_rfl) (by kernel_rfl) (fun _ _ _ h => h) (yieldsIf_load_mid (by rfl) _ _ rfl (g2) (i * 33) rfl (lcell x) _ (fun W hW => range_kept hr2 hW hg2 trivial) Try.underlying27 rfl (ix)) kd6 ?_
        try simp only [Act.put, List.setIfInBounds_toArray, List.set_cons_zero, List.set_cons_succ]
        refine Gz.take (i := 8) (oi := { dst := some 80, op := Op.binOp BinOp.neq 27 (Operand.tmp 75) (Operand.tmp 79) 27, type := 4, pos := _, after := _, guard := none }) (v := ?_) rfl (by kernel_rfl) (by kernel_rfl) (by kernel_rfl) (by kernel_rfl) (fun _ _ _ h => h) (Or.inl ⟨by rfl, ?hy8⟩) kd6 ?_
        case hy8 => (intro W hSw; (try dsimp only at hSw); go_simp; try with_reducible rfl)
        try simp only [Act.put, List.setIfInBounds_toArray, List.set_cons_zero, List.set_cons_succ]
        refine Gz.take (i := 9) (oi := { dst := some 81, op := Op.move (Operand.tmp 80), type := 4, pos := _, after := _, guard := none }) (v := ?_) rfl (by kernel_rfl) (by kernel_rfl) (by kernel_rfl) (by kernel_rfl) (fun _ _ _ h => h) (Or.inl ⟨by rfl, ?hy9⟩) kd6 ?_
        case hy9 => (intro W hSw; (try dsimp only at hSw); go_simp; try with_reducible rfl)
        try simp only [Act.put, List.setIfInBounds_toArray, List.set_cons_zero, List.set_cons_succ]
        refine Gz.take (i := 10) (oi := { dst := some 82, op := Op.move (Operand.tmp 5), type := 22, pos := _, after := _, guard := some (9, false) }) (v := ?_) rfl (by kernel_rfl) (by kernel_rfl) (by kernel_rfl) (by kernel_rfl) (fun _ _ _ h => h) (Or.inl ⟨by rfl, ?hy10⟩) kd6 ?_
        case hy10 => (intro W hSw; (try dsimp only at hSw); go_simp; try with_reducible rfl)
        try simp only [Act.put, List.setIfInBounds_toArray, List.set_cons_zero, List.set_cons_succ]
        refine Gz.take (i := 11) (oi := { dst := some 83, op := Op.move (Operand.tmp 10), type := 3, pos := _, after := _, guard := some (9, false) }) (v := ?_) rfl (by kernel_rfl) (by kernel_rfl) (by kernel_rfl) (by kernel_rfl) (fun _ _ _ h => h) (Or.inl ⟨by rfl, ?hy11⟩) kd6 ?_
        case hy11 => (intro W hSw; (try dsimp only at hSw); go_simp; try with_reducible rfl)
        try simp only [Act.put, List.setIfInBounds_toArray, List.set_cons_zero, List.set_cons_succ]
        refine Gz.take (i := 12) (oi := { dst := some 84, op := Op.indexAddr 22 (Operand.tmp 82) (Operand.tmp 83), type := 0, pos := _, after := _, guard := some (9, false) }) (v := ?_) rfl (by kernel_rfl) (by kernel_rfl) (by kernel_rfl) (by kernel_rfl) (fun _ _ _ h => h) (Or.inl ⟨by rfl, ?hy12⟩) kd6 ?_
        case hy12 => (intro W hSw; (try dsimp only at hSw); go_simp; try with_reducible rfl)
        try simp only [Act.put, List.setIfInBounds_toArray, List.set_cons_zero, List.set_cons_succ]
        refine Gz.take (i := 13) (oi := { dst := some 85, op := Op.fieldAddr 27 (Operand.tmp 84) 0, type := 0, pos := _, after := _, guard := some (9, false) }) (v := ?_) rfl (by kernel_rfl) (by kernel_rfl) (by kernel_rfl) (by kernel_rfl) (fun _ _ _ h => h) (Or.inl ⟨by rfl, ?hy13⟩) kd6 ?_
        case hy13 => (intro W hSw; (try dsimp only at hSw); go_simp; try with_reducible rfl)
        try simp only [Act.put, List.setIfInBounds_toArray, List.set_cons_zero, List.set_cons_succ]
        refine Gz.take (i := 14) (oi := { dst := some 86, op := Op.load 9 (Operand.tmp 85), type := 9, pos := _, after := _, guard := some (9, false) }) (v := ?_) rfl (by kernel_rfl) (by kernel_rfl) (by kernel_rfl) (by kernel_rfl) (fun _ _ _ h => h) (Or.inl ⟨by rfl, ?hy14⟩) kd6 ?_
        case hy14 => (intro W hSw; (try dsimp only at hSw); go_simp; try with_reducible rfl)
        try simp only [Act.put, List.setIfInBounds_toArray, List.set_cons_zero, List.set_cons_succ]
        refine Gz.take (i := 15) (oi := { dst := some 87, op := Op.move (Operand.tmp 0), type := 24, pos := _, after := _, guard := some (9, false) }) (v := ?_) rfl (by kernel_rfl) (by kernel_rfl) (by kernel_rfl) (by kernel_rfl) (fun _ _ _ h => h) (Or.inl ⟨by rfl, ?hy15⟩) kd6 ?_
        case hy15 => (intro W hSw; (try dsimp only at hSw); go_simp; try with_reducible rfl)
        try simp only [Act.put, List.setIfInBounds_toArray, List.set_cons_zero, List.set_cons_succ]
        refine Gz.take (i := 16) (oi := { dst := some 88, op := Op.move (Operand.tmp 10), type := 3, pos := _, after := _, guard := some (9, false) }) (v := ?_) rfl (by kernel_rfl) (by kernel_rfl) (by kernel_rfl) (by kernel_rfl) (fun _ _ _ h => h) (Or.inl ⟨by rfl, ?hy16⟩) kd6 ?_
        case hy16 => (intro W hSw; (try dsimp only at hSw); go_simp; try with_reducible rfl)
        try simp only [Act.put, List.setIfInBounds_toArray, List.set_cons_zero, List.set_cons_succ]
        refine Gz.take (i := 17) (oi := { dst := some 89, op := Op.indexAddr 24 (Operand.tmp 87) (Operand.tmp 88), type := 0, pos := _, after := _, guard := some (9, false) }) (v := ?_) rfl (by kernel_rfl) (by kernel_rfl) (by kernel_rfl) (by kernel_rfl) (fun _ _ _ h => h) (Or.inl ⟨by rfl, ?hy17⟩) kd6 ?_
        case hy17 => (intro W hSw; (try dsimp only at hSw); go_simp; try with_reducible rfl)
        try simp only [Act.put, List.setIfInBounds_toArray, List.set_cons_zero, List.set_cons_succ]
        refine Gz.take (i := 18) (oi := { dst := some 90, op := Op.load 9 (Operand.tmp 89), type := 9, pos := _, after := _, guard := some (9, false) }) (v := ?_) rfl (by kernel_rfl) (by kernel_rfl) (by kernel_rfl) (by kernel_rfl) (fun _ _ _ h => h) (Or.inl ⟨by rfl, ?hy18⟩) kd6 ?_
        case hy18 => (intro W hSw; (try dsimp only at hSw); go_simp; try with_reducible rfl)
        try simp only [Act.put, List.setIfInBounds_toArray, List.set_cons_zero, List.set_cons_succ]
        refine Gz.take (i := 19) (oi := { dst := some 91, op := Op.binOp BinOp.neq 9 (Operand.tmp 86) (Operand.tmp 90) 9, type := 4, pos := _, after := _, guard := some (9, false) }) (v := ?_) rfl (by kernel_rfl) (by kernel_rfl) (by kernel_rfl) (by kernel_rfl) (fun _ _ _ h => h) (Or.inl ⟨by rfl, ?hy19⟩) kd6 ?_
        case hy19 => (intro W hSw; (try dsimp only at hSw); go_simp; try with_reducible rfl)
        try simp only [Act.put, List.setIfInBounds_toArray, List.set_cons_zero, List.set_cons_succ]
        refine Gz.take (i := 20) (oi := { dst := some 92, op := Op.pick (Operand.tmp 81) (Operand.const (Value.bool true)) (Operand.tmp 91), type := 4, pos := _, after := _, guard := none }) (v := ?_) rfl (by kernel_rfl) (by kernel_rfl) (by kernel_rfl) (by kernel_rfl) (fun _ _ _ h => h) (Or.inl ⟨by rfl, ?hy20⟩) kd6 ?_
        case hy20 => (intro W hSw; (try dsimp only at hSw); go_simp; try with_reducible rfl)
        try simp only [Act.put, List.setIfInBounds_toArray, List.set_cons_zero, List.set_cons_succ]
        refine Gz.done (by kernel_rfl) ?_ _
        go_wp2_with fail
        go_roundw
        case rel => exact ⟨i + 1, by omega, by go_num, K6.out.drew⟩
        case measure => simp [intOf]; omega
    · have i1 : ¬ (i : Int) < (N : Int) := by omega
      go_wp2_with (go_at_call 14; (with_reducible refine Calls.mono (known_any _) ?_); rintro e w10 ⟨rfl, k10⟩)
      go_ret
      exact ⟨rfl, (KW.out.trans kr).trans k10⟩

end Go.Proofs.Ytciecjnmiacmeaa
