/-
  ChainLinks: it answers true for all texts.
-/
import Derived.Test.YtciecjnmiacmeaaZ10
import Derived.Test.YtciecjnmiacmeaaZ12
import Derived.Test.YtciecjnmiacmeaaMGz
import Derived.Test.YtciecjnmiacmeaaYTx
namespace Go.Proofs.Ytciecjnmiacmeaa
open Go.RowKit

theorem pre_more (T : List (List UInt8)) (M : List UInt8) : pre (mkC T) (mkC (T ++ [M])) := by
  have e : mkC T = (mkC (T ++ [M])).take T.length := by rw [mkC_take, List.take_left]
  rw [e]
  exact pre_take _ _
theorem last_link (T : List (List UInt8)) (M : List UInt8) (h : T.length < (mkC (T ++ [M])).length) : (mkC (T ++ [M]))[T.length] = ⟨M, nxt (hAt zero32 T T.length) M, nxt_len _ _⟩ := by
  have e : ∀ ys : List Li, ys = mkC T ++ [⟨M, nxt (hAt zero32 T T.length) M, nxt_len _ _⟩] → ∀ h : T.length < ys.length, ys[T.length] = ⟨M, nxt (hAt zero32 T T.length) M, nxt_len _ _⟩ := by
    intro ys hy h
    subst hy
    rw [List.getElem_append_right (by rw [mkC_length]; exact Nat.le_refl _)]
    simp [mkC_length]
  exact e _ (mkC_snoc T M) h
theorem txs_new (w : World) (base : Nat) (hb : base ≤ w.heap.size) : Txs (w.alloc (.cells #[] 9)) base (.slice (some ⟨w.heap.size, 0, none⟩) 0 0) [] :=
  ⟨by simp [srow], .inr ⟨w.heap.size, 0, #[], rfl, hb, heap_alloc_new w _, Nat.zero_le _, by unfold maxLen; omega, by simp, by simp [srow]⟩⟩

set_option maxRecDepth 100000 in
set_option maxHeartbeats 4000000 in
theorem chainLinks_any {w : World} {ao : Option Addr} {cap : Nat} {ss : List (List UInt8)} (h : Tv w ao ss) (more : List UInt8) :
    Calls Try.prog 7 #[.slice ao ss.length cap, .string ⟨more.toArray⟩] w fun e w' => e = .returned (.bool true) ∧ Kept (fun _ => True) w w' := by
  have CF := fewL_any (cap := cap) 10 (by decide) h
  obtain ⟨T, hT⟩ : ∃ T, T = fewP ss 10 := ⟨_, rfl⟩
  have sT : ∀ s ∈ T, s.length ≤ 100 := fun s hs => by rw [hT] at hs; exact fewP_short hs
  have lT : T.length ≤ 10 := by rw [hT, fewP_length]; omega
  rw [← hT] at CF
  clear hT h
  obtain ⟨M, hM⟩ : ∃ M, M = more.take 100 := ⟨_, rfl⟩
  have sM : M.length ≤ 100 := by rw [hM]; simp; omega
  obtain ⟨N, hN⟩ : ∃ N, T.length = N := ⟨_, rfl⟩
  have CM : ∀ (W : World) (a : Option Addr) (c : Nat), Tv W a T → Calls Try.prog 8 #[.slice a N c] W fun e w' => ∃ a' c', e = .returned (.slice a' N c') ∧ Lo 27 w' W.heap.size (.slice a' N c') (mkC T) ∧ Kept (fun _ => True) W w' := fun W a c hv => by
    have := make_any (cap := c) hv (by omega) (fun t ht => by have := sT t ht; omega)
    rwa [mkC_length, hN] at this
  have CM2 : ∀ (W : World) (a : Option Addr) (c : Nat), Tv W a (T ++ [M]) → Calls Try.prog 8 #[.slice a (N + 1) c] W fun e w' => ∃ a' c', e = .returned (.slice a' (N + 1) c') ∧ Lo 27 w' W.heap.size (.slice a' (N + 1) c') (mkC (T ++ [M])) ∧ Kept (fun _ => True) W w' := fun W a c hv => by
    have := make_any (cap := c) hv (by rw [List.length_append]; simp; omega) (fun t ht => by
      rcases List.mem_append.1 ht with h1 | h1
      · have := sT t h1; omega
      · rw [List.mem_singleton.1 h1]; omega)
    rwa [mkC_length, List.length_append, hN] at this
  have lk : (mkC T).length = N := by rw [mkC_length, hN]
  have lk2 : (mkC (T ++ [M])).length = N + 1 := by rw [mkC_length, List.length_append, hN]; rfl
  have CT : ∀ (W : World) (a : Option Addr) (c : Nat), Lv W a (mkC T) → Calls Try.prog 13 #[.slice a N c] W fun e w' => ∃ a' c', e = .returned (.slice a' N c') ∧ Tv w' a' T ∧ Kept (fun _ => True) W w' := fun W a c hv => by
    have := textsL_any (cap := c) hv (by omega)
    rw [lk, txs_mkC, hN] at this
    refine this.mono ?_
    rintro e w' ⟨a', c', rfl, ht, k⟩
    exact ⟨a', c', rfl, ht.tv, k⟩
  have CS : ∀ (W : World) (a a' : Option Addr) (c c' : Nat), Tv W a T → Tv W a' T → Calls Try.prog 26 #[.slice a N c, .slice a' N c'] W fun e w' => e = .returned (.bool true) ∧ ∃ m, w' = W.drewN m := fun W a a' c c' h1 h2 => by
    have := strsame_any (c1 := c) (c2 := c') h1 h2 (by omega)
    rwa [hN] at this
  have CF2 : ∀ (W : World) (g : Nat), W.heap[g]? = some (.cells #[.string ⟨more.toArray⟩] 9 (0, 0)) → Calls Try.prog 15 #[.slice (some ⟨g, 0, none⟩) 1 1, .int .i64 1] W fun e w' => ∃ g' c', e = .returned (.slice (some ⟨g', 0, none⟩) 1 c') ∧ w'.cell? ⟨g', 0, none⟩ = some (.string ⟨M.toArray⟩) ∧ Kept (fun _ => True) W w' := fun W g hg => by
    have := fewL_any (cap := 1) 1 (by decide) (tv_new (ss := [more]) hg)
    have e1 : fewP [more] 1 = [M] := by rw [hM]; rfl
    rw [e1] at this
    refine this.mono ?_
    rintro e w' ⟨a', c', rfl, ht, k⟩
    obtain ⟨ao', cap', e0, _, hgg⟩ := ht.shape
    injection e0 with e1 e2 e3
    subst e1
    obtain ⟨g', rfl⟩ := hgg (by simp)
    exact ⟨g', c', rfl, ht.cell 0 (by simp), k⟩
  rw [hN] at CF
  clear hM
  have HT : Hid (∀ s ∈ T, s.length ≤ 100) := sT
  clear sT
  go_enter Try.func7, Try.ntmps7
  go_wp2_with (first
    | (go_at_call 15; (with_reducible refine Calls.mono CF ?_); rintro e w1 ⟨a1, c1, rfl, ht1, k1⟩; have T1 : Hid (Txs w1 w.heap.size (.slice a1 N c1) T) := ht1; clear ht1)
    | (go_at_call 8; (with_reducible refine Calls.mono (CM w1 a1 c1 T1.out.tv) ?_); rintro e w2 ⟨a2, c2, rfl, ho2, k2⟩; have H2 : Hid (Lo 27 w2 w1.heap.size (.slice a2 N c2) (mkC T)) := ho2; clear ho2)
    | (go_at_call 13; (with_reducible refine Calls.mono (CT w2 a2 c2 H2.out.view) ?_); rintro e w3 ⟨a3, c3, rfl, ht3, k3⟩; have T3 : Hid (Tv w3 a3 T) := ht3; clear ht3)
    | (go_at_call 26; (with_reducible refine Calls.mono (CS w3 a3 a1 c3 c1 T3.out ((T1.out.tv.all k2).all k3)) ?_); rintro e w4 ⟨rfl, m4, rfl⟩)
    | ((with_reducible refine w_alloc (d := some 6) arr32 ?_); intro w5 a5 k5 s5))
  have K3 : Hid (Kept (fun _ => True) w2 (w3.drewN m4)) := k3.drewN m4
  have KW : Hid (Kept (fun _ => True) w (w3.drewN m4)) := (k1.trans k2).trans (k3.drewN m4)
  have T4 : Hid (Txs (w3.drewN m4) w.heap.size (.slice a1 N c1) T) := ((T1.out.kept k2 (fun _ _ => trivial)).kept k3 (fun _ _ => trivial)).kept ((Kept.refl _ _).drewN m4) (fun _ _ => trivial)
  have H4 : Hid (Lo 27 (w3.drewN m4) w1.heap.size (.slice a2 N c2) (mkC T)) := (H2.out.all k3).all ((Kept.refl _ _).drewN m4)
  have hsz : (w3.drewN m4).heap.size = w3.heap.size := rfl
  have A5 : Ar w5 (w3.drewN m4).heap.size 25 (cells zero32) := a5
  rw [← hsz]
  clear T1 H2 T3 K3 k1 k2 k3 a5 s5 CM CT CS hsz
  generalize w3.drewN m4 = w4 at *
  obtain ⟨B, hB⟩ : ∃ B, B = w4.heap.size := ⟨_, rfl⟩
  rw [← hB] at A5 ⊢
  have HB : Hid (B = w4.heap.size) := hB
  have HA5 : Hid (Ar w5 B 25 (cells zero32)) := A5
  have K45 : Hid (Kept (fun _ => True) w4 w5) := k5
  clear hB A5 k5
  go_loopw [7] (fun t wr => ∃ i : Nat, i ≤ N ∧ t = .int .i64 i ∧ Ar wr B 25 (cells (hAt zero32 T i)) ∧ Kept (fun _ => True) w4 wr) (fun t _ => N - (intOf t).toNat)
  case atStart => exact ⟨0, Nat.zero_le _, rfl, HA5.out, K45.out⟩
  case round =>
    obtain ⟨i, hi, rfl, ar, kr⟩ := hrel
    by_cases hlt : i < N
    · as_aux_lemma =>
        have hlT : i < T.length := by omega
        obtain ⟨b1, o1, rfl, hb1, hc1⟩ := T4.out.tv (by omega)
        have c0 := hc1 i hlT
        obtain ⟨g2, o2, e2, hb2, hc2⟩ := H4.out.view.row (by rw [lk]; omega)
        obtain ⟨_, _, e0, _, hgg, _⟩ := H4.out.shape
        injection e0 with e01 e02 e03
        obtain ⟨g2', hg2'⟩ := hgg (by rw [lk]; omega)
        rw [hg2'] at e01
        subst e01
        injection e2 with e2
        injection e2 with e21 e22 e23
        subst e21 e22
        have hr4 := hc2 i (by rw [lk]; exact hlt)
        rw [Nat.zero_add] at hr4
        have hme : (mkC T)[i]'(by rw [lk]; exact hlt) = ⟨T[i], hAt zero32 T (i + 1), hAt_len zero32_len _ _⟩ := mkC_get T i hlT
        rw [hme] at hr4
        have hr5 : w4.rangeAt g2' (i * 33) (.string ⟨(T[i]).toArray⟩ :: cells (hAt zero32 T (i + 1))) := hr4
        clear hr4 hme
        have st := HT.out T[i] (List.getElem_mem _)
        have lh : (hAt zero32 T i).length = 32 := hAt_len zero32_len _ _
        have ln : (hAt zero32 T (i + 1)).length = 32 := hAt_len zero32_len _ _
        have hN1 := hAt_succ zero32 T i hlT
        have cn := fun (W : World) => next_any (w := W) (hAt zero32 T i) T[i] lh (by omega)
        rw [← hN1] at cn
        have AR : Hid (Ar wr B 25 (cells (hAt zero32 T i))) := ar
        generalize hAt zero32 T i = hd at *
        generalize hn1 : hAt zero32 T (i + 1) = hd' at *
        have HN1 : Hid (hAt zero32 T (i + 1) = hd') := hn1
        generalize T[i] = tx at *
        have l32 : (cells hd).length = 32 := by rw [cells_length, lh]
        have ln2 : (cells hd').length = 32 := by rw [cells_length, ln]
        have on2 := cells_one hd'
        have ih : (Try.prog.info? 25).map (·.size) = some (cells hd).length := by rw [l32]; exact arr32.size
        have ih2 : (Try.prog.info? 25).map (·.size) = some (cells hd').length := by rw [ln2]; exact arr32.size
        have i0 : (0 : Int) ≤ (i : Int) := by omega
        have i1 : (i : Int) < (N : Int) := by omega
        have ct : ∀ W, Kept (fun _ => True) wr W → W.cell? ⟨b1, o1 + i, none⟩ = some (.string ⟨tx.toArray⟩) := fun W hW => (kept_cell hW (Nat.lt_of_lt_of_le hb1 kr.size) trivial).trans ((kept_cell kr hb1 trivial).trans c0)
        have hr2r := range_kept hr5 kr hb2 trivial
        have hbr : g2' < wr.heap.size := Nat.lt_of_lt_of_le hb2 kr.size
        have hb1r : b1 < wr.heap.size := Nat.lt_of_lt_of_le hb1 kr.size
        have hB2 := AR.out.lt
        have KR : Hid (Kept (fun _ => True) w4 wr) := kr
        have hbB : g2' < B := by have := HB.out; omega
        have hb1B : b1 < B := by have := HB.out; omega
        have hgd := guard32
        have he := fun (w0 : World) => eq_yes (xs := hd') (ys := hd') ln rfl w0
        clear hc1 hc2 hr5 ar kr hn1 hN1 c0 lh st e02 e03 e23 hgg hg2'
        go_wp2
        refine Gz.begin (fun W => Kept (fun _ => True) wr W) (fun i => decide (i = 6)) (by kernel_rfl) ?_
        refine Gz.take (i := 0) (oi := { dst := some 32, op := Op.load 25 (Operand.tmp 6), type := 25, pos := _, after := _, guard := none }) (v := _) rfl (by kernel_rfl) (by kernel_rfl) (by kernel_rfl) (by kernel_rfl) (fun _ _ _ h => h) (yieldsIf_load_mid (by rfl) _ _ rfl (B) (0) rfl (cells hd) _ (fun W hW => (AR.out.kept hW trivial).range) Try.underlying25 rfl (ih)) (Kept.refl _ _).drew ?_
        try simp only [Act.put, List.setIfInBounds_toArray, List.set_cons_zero, List.set_cons_succ]
        refine Gz.take (i := 1) (oi := { dst := some 33, op := Op.move (Operand.tmp 0), type := 24, pos := _, after := _, guard := none }) (v := ?_) rfl (by kernel_rfl) (by kernel_rfl) (by kernel_rfl) (by kernel_rfl) (fun _ _ _ h => h) (Or.inl ⟨by rfl, ?hy1⟩) (Kept.refl _ _).drew ?_
        case hy1 => (intro W hSw; (try dsimp only at hSw); go_simp; try with_reducible rfl)
        try simp only [Act.put, List.setIfInBounds_toArray, List.set_cons_zero, List.set_cons_succ]
        refine Gz.take (i := 2) (oi := { dst := some 34, op := Op.move (Operand.tmp 7), type := 3, pos := _, after := _, guard := none }) (v := ?_) rfl (by kernel_rfl) (by kernel_rfl) (by kernel_rfl) (by kernel_rfl) (fun _ _ _ h => h) (Or.inl ⟨by rfl, ?hy2⟩) (Kept.refl _ _).drew ?_
        case hy2 => (intro W hSw; (try dsimp only at hSw); go_simp; try with_reducible rfl)
        try simp only [Act.put, List.setIfInBounds_toArray, List.set_cons_zero, List.set_cons_succ]
        refine Gz.take (i := 3) (oi := { dst := some 35, op := Op.indexAddr 24 (Operand.tmp 33) (Operand.tmp 34), type := 0, pos := _, after := _, guard := none }) (v := ?_) rfl (by kernel_rfl) (by kernel_rfl) (by kernel_rfl) (by kernel_rfl) (fun _ _ _ h => h) (Or.inl ⟨by rfl, ?hy3⟩) (Kept.refl _ _).drew ?_
        case hy3 => (intro W hSw; (try dsimp only at hSw); go_simp; try with_reducible rfl)
        try simp only [Act.put, List.setIfInBounds_toArray, List.set_cons_zero, List.set_cons_succ]
        refine Gz.take (i := 4) (oi := { dst := some 36, op := Op.load 9 (Operand.tmp 35), type := 9, pos := _, after := _, guard := none }) (v := ?_) rfl (by kernel_rfl) (by kernel_rfl) (by kernel_rfl) (by kernel_rfl) (fun _ _ _ h => h) (Or.inl ⟨by rfl, ?hy4⟩) (Kept.refl _ _).drew ?_
        case hy4 => (intro W hSw; (try dsimp only at hSw); go_simp; try with_reducible rfl)
        try simp only [Act.put, List.setIfInBounds_toArray, List.set_cons_zero, List.set_cons_succ]
        refine Gz.one (i := 5) (o := { dst := some 37, op := Op.call { callee := Callee.value (Operand.func 27), args := #[Operand.tmp 32, Operand.tmp 36], argTypes := #[25, 9] }, type := 25, pos := _, after := _, guard := none }) (by kernel_rfl) rfl (fun K hK => ?_)
        go_simp
        with_reducible refine Calls.mono (cn _) ?_
        rintro e w5 ⟨rfl, k5⟩
        have s5 : Kept (fun _ => True) wr w5 := (Kept.refl _ _).drew.trans k5
        try go_wp2_with fail
        refine hK.out _ _ (fun _ => s5) ?_
        clear hK K
        try simp only [Act.put, List.setIfInBounds_toArray, List.set_cons_zero, List.set_cons_succ]
        refine Gz.one (i := 6) (o := { dst := none, op := Op.store 25 (Operand.tmp 6) (Operand.tmp 37), type := 0, pos := _, after := _, guard := none }) (by kernel_rfl) rfl (fun K hK => ?_)
        refine step_storeH (b := B) (xs := cells hd') (old := cells hd) rfl rfl (AR.out.kept s5 trivial) l32 ln2 on2 ?_
        intro w6 a6 k6 s6
        refine hK.out _ _ (fun hEarly => by cases hEarly) ?_
        clear hK K
        try simp only [Act.put, List.setIfInBounds_toArray, List.set_cons_zero, List.set_cons_succ]
        refine Gz.done (by kernel_rfl) ?_ _
        go_wp2_with fail
        have kk6 : Kept (· ≠ B) wr w6 := (s5.mono (fun _ _ _ => trivial)).trans k6
        have hr2 := range_kept hr2r kk6 hbr (by omega)
        have hg2 : g2' < w6.heap.size := Nat.lt_of_lt_of_le hbr kk6.size
        have ct6 : ∀ W, Kept (fun _ => True) w6 W → W.cell? ⟨b1, o1 + i, none⟩ = some (.string ⟨tx.toArray⟩) := fun W hW => (kept_cell hW (Nat.lt_of_lt_of_le hb1r kk6.size) trivial).trans ((kept_cell kk6 hb1r (by omega)).trans (ct wr (Kept.refl _ _)))
        have ct7 : ∀ W, Kept (fun _ => True) w6 W → W.cell? ⟨g2', i * 33, none⟩ = some (.string ⟨tx.toArray⟩) := fun W hW => range_hd (range_kept hr2 hW hg2 trivial)
        have AR6 : Hid (Ar w6 B 25 (cells hd')) := a6
        have K6 : Hid (Kept (fun _ => True) w4 w6) := by
          have hb := HB.out
          exact KR.out.then kk6 (fun j hj _ => by omega)
        have kd6 : Kept (fun _ => True) w6 w6.drew := (Kept.refl _ _).drew
        clear hr2r ct k6 s6 a6 AR kk6 s5
        refine Gz.begin (fun W => Kept (fun _ => True) w6 W) (fun _ => false) (by kernel_rfl) ?_
        refine Gz.take (i := 0) (oi := { dst := some 38, op := Op.move (Operand.tmp 5), type := 22, pos := _, after := _, guard := none }) (v := ?_) rfl (by kernel_rfl) (by kernel_rfl) (by kernel_rfl) (by kernel_rfl) (fun _ _ _ h => h) (Or.inl ⟨by rfl, ?hy0⟩) kd6 ?_
        case hy0 => (intro W hSw; (try dsimp only at hSw); go_simp; try with_reducible rfl)
        try simp only [Act.put, List.setIfInBounds_toArray, List.set_cons_zero, List.set_cons_succ]
        refine Gz.take (i := 1) (oi := { dst := some 39, op := Op.move (Operand.tmp 7), type := 3, pos := _, after := _, guard := none }) (v := ?_) rfl (by kernel_rfl) (by kernel_rfl) (by kernel_rfl) (by kernel_rfl) (fun _ _ _ h => h) (Or.inl ⟨by rfl, ?hy1⟩) kd6 ?_
        case hy1 => (intro W hSw; (try dsimp only at hSw); go_simp; try with_reducible rfl)
        try simp only [Act.put, List.setIfInBounds_toArray, List.set_cons_zero, List.set_cons_succ]
        refine Gz.take (i := 2) (oi := { dst := some 40, op := Op.indexAddr 22 (Operand.tmp 38) (Operand.tmp 39), type := 0, pos := _, after := _, guard := none }) (v := ?_) rfl (by kernel_rfl) (by kernel_rfl) (by kernel_rfl) (by kernel_rfl) (fun _ _ _ h => h) (Or.inl ⟨by rfl, ?hy2⟩) kd6 ?_
        case hy2 => (intro W hSw; (try dsimp only at hSw); go_simp; try with_reducible rfl)
        try simp only [Act.put, List.setIfInBounds_toArray, List.set_cons_zero, List.set_cons_succ]
        refine Gz.take (i := 3) (oi := { dst := some 41, op := Op.fieldAddr 27 (Operand.tmp 40) 1, type := 0, pos := _, after := _, guard := none }) (v := ?_) rfl (by kernel_rfl) (by kernel_rfl) (by kernel_rfl) (by kernel_rfl) (fun _ _ _ h => h) (Or.inl ⟨by rfl, ?hy3⟩) kd6 ?_
        case hy3 => (intro W hSw; (try dsimp only at hSw); go_simp; try with_reducible rfl)
        try simp only [Act.put, List.setIfInBounds_toArray, List.set_cons_zero, List.set_cons_succ]
        refine Gz.take (i := 4) (oi := { dst := some 42, op := Op.load 25 (Operand.tmp 41), type := 25, pos := _, after := _, guard := none }) (v := _) rfl (by kernel_rfl) (by kernel_rfl) (by kernel_rfl) (by kernel_rfl) (fun _ _ _ h => h) (yieldsIf_load_mid (by rfl) _ _ rfl (g2') (i * 33 + 1) rfl (cells hd') _ (fun W hW => range_tl (range_kept hr2 hW hg2 trivial)) Try.underlying25 rfl (ih2)) kd6 ?_
        try simp only [Act.put, List.setIfInBounds_toArray, List.set_cons_zero, List.set_cons_succ]
        refine Gz.take (i := 5) (oi := { dst := some 43, op := Op.load 25 (Operand.tmp 6), type := 25, pos := _, after := _, guard := none }) (v := _) rfl (by kernel_rfl) (by kernel_rfl) (by kernel_rfl) (by kernel_rfl) (fun _ _ _ h => h) (yieldsIf_load_mid (by rfl) _ _ rfl (B) (0) rfl (cells hd') _ (fun W hW => (AR6.out.kept hW trivial).range) Try.underlying25 rfl (ih2)) kd6 ?_
        try simp only [Act.put, List.setIfInBounds_toArray, List.set_cons_zero, List.set_cons_succ]
        refine Gz.take (i := 6) (oi := { dst := some 44, op := Op.binOp BinOp.neq 25 (Operand.tmp 42) (Operand.tmp 43) 25, type := 4, pos := _, after := _, guard := none }) (v := ?_) rfl (by kernel_rfl) (by kernel_rfl) (by kernel_rfl) (by kernel_rfl) (fun _ _ _ h => h) (Or.inl ⟨by rfl, ?hy6⟩) kd6 ?_
        case hy6 => (intro W hSw; (try dsimp only at hSw); go_simp; try with_reducible rfl)
        try simp only [Act.put, List.setIfInBounds_toArray, List.set_cons_zero, List.set_cons_succ]
        refine Gz.take (i := 7) (oi := { dst := some 45, op := Op.move (Operand.tmp 44), type := 4, pos := _, after := _, guard := none }) (v := ?_) rfl (by kernel_rfl) (by kernel_rfl) (by kernel_rfl) (by kernel_rfl) (fun _ _ _ h => h) (Or.inl ⟨by rfl, ?hy7⟩) kd6 ?_
        case hy7 => (intro W hSw; (try dsimp only at hSw); go_simp; try with_reducible rfl)
        try simp only [Act.put, List.setIfInBounds_toArray, List.set_cons_zero, List.set_cons_succ]
        refine Gz.take (i := 8) (oi := { dst := some 46, op := Op.move (Operand.tmp 5), type := 22, pos := _, after := _, guard := some (7, false) }) (v := ?_) rfl (by kernel_rfl) (by kernel_rfl) (by kernel_rfl) (by kernel_rfl) (fun _ _ _ h => h) (Or.inl ⟨by rfl, ?hy8⟩) kd6 ?_
        case hy8 => (intro W hSw; (try dsimp only at hSw); go_simp; try with_reducible rfl)
        try simp only [Act.put, List.setIfInBounds_toArray, List.set_cons_zero, List.set_cons_succ]
        refine Gz.take (i := 9) (oi := { dst := some 47, op := Op.move (Operand.tmp 7), type := 3, pos := _, after := _, guard := some (7, false) }) (v := ?_) rfl (by kernel_rfl) (by kernel_rfl) (by kernel_rfl) (by kernel_rfl) (fun _ _ _ h => h) (Or.inl ⟨by rfl, ?hy9⟩) kd6 ?_
        case hy9 => (intro W hSw; (try dsimp only at hSw); go_simp; try with_reducible rfl)
        try simp only [Act.put, List.setIfInBounds_toArray, List.set_cons_zero, List.set_cons_succ]
        refine Gz.take (i := 10) (oi := { dst := some 48, op := Op.indexAddr 22 (Operand.tmp 46) (Operand.tmp 47), type := 0, pos := _, after := _, guard := some (7, false) }) (v := ?_) rfl (by kernel_rfl) (by kernel_rfl) (by kernel_rfl) (by kernel_rfl) (fun _ _ _ h => h) (Or.inl ⟨by rfl, ?hy10⟩) kd6 ?_
        case hy10 => (intro W hSw; (try dsimp only at hSw); go_simp; try with_reducible rfl)
        try simp only [Act.put, List.setIfInBounds_toArray, List.set_cons_zero, List.set_cons_succ]
        refine Gz.take (i := 11) (oi := { dst := some 49, op := Op.fieldAddr 27 (Operand.tmp 48) 0, type := 0, pos := _, after := _, guard := some (7, false) }) (v := ?_) rfl (by kernel_rfl) (by kernel_rfl) (by kernel_rfl) (by kernel_rfl) (fun _ _ _ h => h) (Or.inl ⟨by rfl, ?hy11⟩) kd6 ?_
        case hy11 => (intro W hSw; (try dsimp only at hSw); go_simp; try with_reducible rfl)
        try simp only [Act.put, List.setIfInBounds_toArray, List.set_cons_zero, List.set_cons_succ]
        refine Gz.take (i := 12) (oi := { dst := some 50, op := Op.load 9 (Operand.tmp 49), type := 9, pos := _, after := _, guard := some (7, false) }) (v := ?_) rfl (by kernel_rfl) (by kernel_rfl) (by kernel_rfl) (by kernel_rfl) (fun _ _ _ h => h) (Or.inl ⟨by rfl, ?hy12⟩) kd6 ?_
        case hy12 => (intro W hSw; (try dsimp only at hSw); go_simp; try with_reducible rfl)
        try simp only [Act.put, List.setIfInBounds_toArray, List.set_cons_zero, List.set_cons_succ]
        refine Gz.take (i := 13) (oi := { dst := some 51, op := Op.move (Operand.tmp 0), type := 24, pos := _, after := _, guard := some (7, false) }) (v := ?_) rfl (by kernel_rfl) (by kernel_rfl) (by kernel_rfl) (by kernel_rfl) (fun _ _ _ h => h) (Or.inl ⟨by rfl, ?hy13⟩) kd6 ?_
        case hy13 => (intro W hSw; (try dsimp only at hSw); go_simp; try with_reducible rfl)
        try simp only [Act.put, List.setIfInBounds_toArray, List.set_cons_zero, List.set_cons_succ]
        refine Gz.take (i := 14) (oi := { dst := some 52, op := Op.move (Operand.tmp 7), type := 3, pos := _, after := _, guard := some (7, false) }) (v := ?_) rfl (by kernel_rfl) (by kernel_rfl) (by kernel_rfl) (by kernel_rfl) (fun _ _ _ h => h) (Or.inl ⟨by rfl, ?hy14⟩) kd6 ?_
        case hy14 => (intro W hSw; (try dsimp only at hSw); go_simp; try with_reducible rfl)
        try simp only [Act.put, List.setIfInBounds_toArray, List.set_cons_zero, List.set_cons_succ]
        refine Gz.take (i := 15) (oi := { dst := some 53, op := Op.indexAddr 24 (Operand.tmp 51) (Operand.tmp 52), type := 0, pos := _, after := _, guard := some (7, false) }) (v := ?_) rfl (by kernel_rfl) (by kernel_rfl) (by kernel_rfl) (by kernel_rfl) (fun _ _ _ h => h) (Or.inl ⟨by rfl, ?hy15⟩) kd6 ?_
        case hy15 => (intro W hSw; (try dsimp only at hSw); go_simp; try with_reducible rfl)
        try simp only [Act.put, List.setIfInBounds_toArray, List.set_cons_zero, List.set_cons_succ]
        refine Gz.take (i := 16) (oi := { dst := some 54, op := Op.load 9 (Operand.tmp 53), type := 9, pos := _, after := _, guard := some (7, false) }) (v := ?_) rfl (by kernel_rfl) (by kernel_rfl) (by kernel_rfl) (by kernel_rfl) (fun _ _ _ h => h) (Or.inl ⟨by rfl, ?hy16⟩) kd6 ?_
        case hy16 => (intro W hSw; (try dsimp only at hSw); go_simp; try with_reducible rfl)
        try simp only [Act.put, List.setIfInBounds_toArray, List.set_cons_zero, List.set_cons_succ]
        refine Gz.take (i := 17) (oi := { dst := some 55, op := Op.binOp BinOp.neq 9 (Operand.tmp 50) (Operand.tmp 54) 9, type := 4, pos := _, after := _, guard := some (7, false) }) (v := ?_) rfl (by kernel_rfl) (by kernel_rfl) (by kernel_rfl) (by kernel_rfl) (fun _ _ _ h => h) (Or.inl ⟨by rfl, ?hy17⟩) kd6 ?_
        case hy17 => (intro W hSw; (try dsimp only at hSw); go_simp; try with_reducible rfl)
        try simp only [Act.put, List.setIfInBounds_toArray, List.set_cons_zero, List.set_cons_succ]
        refine Gz.take (i := 18) (oi := { dst := some 56, op := Op.pick (Operand.tmp 45) (Operand.const (Value.bool true)) (Operand.tmp 55), type := 4, pos := _, after := _, guard := none }) (v := ?_) rfl (by kernel_rfl) (by kernel_rfl) (by kernel_rfl) (by kernel_rfl) (fun _ _ _ h => h) (Or.inl ⟨by rfl, ?hy18⟩) kd6 ?_
        case hy18 => (intro W hSw; (try dsimp only at hSw); go_simp; try with_reducible rfl)
        try simp only [Act.put, List.setIfInBounds_toArray, List.set_cons_zero, List.set_cons_succ]
        refine Gz.done (by kernel_rfl) ?_ _
        go_wp2_with fail
        go_roundw
        case rel => exact ⟨i + 1, by omega, by go_num, by rw [HN1.out]; exact AR6.out.drew, K6.out.drew⟩
        case measure => simp [intOf]; omega
    · as_aux_lemma =>
        have i1 : ¬ (i : Int) < (N : Int) := by omega
        have hie : i = N := by omega
        subst hie
        have TW : Hid (Txs wr w.heap.size (.slice a1 i c1) T) := T4.out.kept kr (fun _ _ => trivial)
        have HW : Hid (Lo 27 wr w1.heap.size (.slice a2 i c2) (mkC T)) := H4.out.all kr
        have ARW : Hid (Ar wr B 25 (cells (hAt zero32 T i))) := ar
        have KR : Hid (Kept (fun _ => True) w4 wr) := kr
        have lw : w.heap.size ≤ wr.heap.size := Nat.le_trans KW.out.size kr.size
        clear ar kr
        go_wp2_with (first
          | (go_at_call 15; (with_reducible refine Calls.mono (CF2 _ wr.heap.size (heap_alloc_new wr _)) ?_); rintro e w7 ⟨g7, c7, rfl, hc7, k7⟩; have K7 : Hid (Kept (fun _ => True) wr w7) := ((Kept.refl _ _).alloc _).trans k7)
          | (at_builtin; refine wpList_append_texts rfl (.tmp 62) (.tmp 63) rfl w7.heap.size w.heap.size (.slice (some ⟨w7.heap.size, 0, none⟩) 0 0) (.slice a1 i c1) [] T rfl (txs_new w7 _ (Nat.le_refl _)) rfl ((TW.out.kept K7.out (fun _ _ => trivial)).kept ((Kept.refl (fun _ => True) w7).alloc _) (fun _ _ => trivial)) (by simp) (by rw [hN]; simp; omega) ?_; intro a8 c8 w8 ht8 hg8; simp only [List.length_nil, List.nil_append, Nat.zero_add, hN] at ht8; have T8 : Hid (Txs w8 w7.heap.size (.slice a8 i c8) T) := ht8; have K8 : Hid (Kept (fun _ => True) w7 w8) := ((Kept.refl _ _).alloc _).grown hg8 (fun j hj e => by simp [Value.ownBlock] at e; omega); clear ht8 hg8)
          | (at_builtin; refine wpList_append_text rfl (.tmp 64) (.tmp 66) rfl w7.heap.size (.slice a8 i c8) T rfl (T8.out.kept ((Kept.refl (fun _ => True) w8).alloc _) (fun _ _ => trivial)) (by have := K8.out.size; simp; omega) _ rfl M (0, 0) (heap_alloc_new w8 _) (by omega) ?_; intro a9 c9 w9 ht9 hg9 hl9; simp only [hN] at ht9; have T9 : Hid (Txs w9 w7.heap.size (.slice a9 (i + 1) c9) (T ++ [M])) := ht9; have K9 : Hid (Kept (fun _ => True) w7 w9) := (K8.out.alloc _).grown hg9 (fun j hj e => by have := (World.ownsRow.lt T8.out j e).1; omega); clear ht9 hg9 hl9)
          | (go_at_call 8; (with_reducible refine Calls.mono (CM2 w9 a9 c9 T9.out.tv) ?_); rintro e w10 ⟨a10, c10, rfl, ho10, k10⟩))
        obtain ⟨g10, rfl, hge10, hg10, hc10⟩ := ho10.some3 (by omega)
        obtain ⟨_, _, e0, hc2, _, _⟩ := HW.out.shape
        injection e0 with e01 e02 e03
        rw [lk, ← e03] at hc2
        clear e03 e01 e02
        have V10 : Hid (Lv w10 (some ⟨g10, 0, none⟩) (mkC (T ++ [M]))) := ho10.view
        have K710 : Hid (Kept (fun _ => True) w7 w10) := K9.out.trans k10
        have V2 : Hid (Lv w10 a2 (mkC T)) := (HW.out.view.all K7.out).all K710.out
        have ARX : Hid (Ar w10 B 25 (cells (hAt zero32 T i))) := (ARW.out.kept K7.out trivial).kept K710.out trivial
        have hr10 : w10.rangeAt g10 (i * 33) (.string ⟨M.toArray⟩ :: cells (nxt (hAt zero32 T i) M)) := by
          obtain ⟨b, off, e1, _, hc⟩ := V10.out.row (by rw [lk2]; omega)
          injection e1 with e1
          injection e1 with e11 e12 e13
          subst e11 e12
          have h1 := hc T.length (by rw [lk2, hN]; omega)
          rw [last_link, hN, Nat.zero_add] at h1
          exact h1
        have lz : (hAt zero32 T i).length = 32 := hAt_len zero32_len _ _
        have lz' := nxt_len (hAt zero32 T i) M
        have cnx := fun (W : World) => next_any (w := W) (hAt zero32 T i) M lz (by omega)
        have CP : ∀ W, Kept (fun _ => True) w10 W → Calls Try.prog 21 #[.slice a2 i c2, .slice (some ⟨g10, 0, none⟩) (i + 1) c10] W fun e w' => e = .returned (.bool true) ∧ Kept (fun _ => True) W w' := fun W hW => by
          have := prefix_any (c1 := c2) (c2 := c10) (V2.out.all hW) (V10.out.all hW) (by omega) (by omega) (by rw [lk]; omega) (by rw [lk2]; exact hc10)
          rw [lk, lk2] at this
          refine this.mono ?_
          rintro e w' ⟨b, rfl, hb, k⟩
          rw [hb.2 (pre_more T M)]
          exact ⟨rfl, k⟩
        have KX : Hid (Kept (fun _ => True) w w10) := ((KW.out.trans KR.out).trans K7.out).trans K710.out
        have hgd := guard32
        generalize nxt (hAt zero32 T i) M = hz' at *
        generalize hAt zero32 T i = hz at *
        have he := fun (w0 : World) => eq_yes (xs := hz') (ys := hz') lz' rfl w0
        have ih10 : (Try.prog.info? 25).map (·.size) = some (cells hz').length := by rw [cells_length, lz']; exact arr32.size
        have ihz : (Try.prog.info? 25).map (·.size) = some (cells hz).length := by rw [cells_length, lz]; exact arr32.size
        have j0 : (0 : Int) ≤ (i : Int) := by omega
        have j1 : (i : Int) < (i : Int) + 1 := by omega
        have hwr : IntKind.i64.wrap ((i : Int) + 1) = (i : Int) + 1 := by
          simp [IntKind.wrap, IntKind.bits, IntKind.signed]
          omega
        clear CF2 CM2 ho10 k10 lz lz' hge10 lk lk2 TW HW ARW KR T4 H4 T8 T9 K8 K9 K7 V2 V10 k7 hc7 HT
        as_aux_lemma =>
          refine Gz.begin (fun W => Kept (fun _ => True) w10 W) (fun _ => false) (by kernel_rfl) ?_
          refine Gz.take (i := 0) (oi := { dst := some 69, op := Op.move (Operand.tmp 9), type := 22, pos := _, after := _, guard := none }) (v := ?_) rfl (by kernel_rfl) (by kernel_rfl) (by kernel_rfl) (by kernel_rfl) (fun _ _ _ h => h) (Or.inl ⟨by rfl, ?hy0⟩) (Kept.refl _ _).drew ?_
          case hy0 => (intro W hSw; (try dsimp only at hSw); go_simp; try with_reducible rfl)
          try simp only [Act.put, List.setIfInBounds_toArray, List.set_cons_zero, List.set_cons_succ]
          refine Gz.take (i := 1) (oi := { dst := some 70, op := Op.call { callee := Callee.builtin Builtin.len, args := #[Operand.tmp 69], argTypes := #[22] }, type := 3, pos := _, after := _, guard := none }) (v := ?_) rfl (by kernel_rfl) (by kernel_rfl) (by kernel_rfl) (by kernel_rfl) (fun _ _ _ h => h) (Or.inl ⟨by rfl, ?hy1⟩) (Kept.refl _ _).drew ?_
          case hy1 => (intro W hSw; (try dsimp only at hSw); go_simp; try with_reducible rfl)
          try simp only [Act.put, List.setIfInBounds_toArray, List.set_cons_zero, List.set_cons_succ]
          refine Gz.take (i := 2) (oi := { dst := some 71, op := Op.move (Operand.tmp 0), type := 24, pos := _, after := _, guard := none }) (v := ?_) rfl (by kernel_rfl) (by kernel_rfl) (by kernel_rfl) (by kernel_rfl) (fun _ _ _ h => h) (Or.inl ⟨by rfl, ?hy2⟩) (Kept.refl _ _).drew ?_
          case hy2 => (intro W hSw; (try dsimp only at hSw); go_simp; try with_reducible rfl)
          try simp only [Act.put, List.setIfInBounds_toArray, List.set_cons_zero, List.set_cons_succ]
          refine Gz.take (i := 3) (oi := { dst := some 72, op := Op.call { callee := Callee.builtin Builtin.len, args := #[Operand.tmp 71], argTypes := #[24] }, type := 3, pos := _, after := _, guard := none }) (v := ?_) rfl (by kernel_rfl) (by kernel_rfl) (by kernel_rfl) (by kernel_rfl) (fun _ _ _ h => h) (Or.inl ⟨by rfl, ?hy3⟩) (Kept.refl _ _).drew ?_
          case hy3 => (intro W hSw; (try dsimp only at hSw); go_simp; try with_reducible rfl)
          try simp only [Act.put, List.setIfInBounds_toArray, List.set_cons_zero, List.set_cons_succ]
          refine Gz.take (i := 4) (oi := { dst := some 73, op := Op.binOp BinOp.add 3 (Operand.tmp 72) (Operand.const (Value.int IntKind.i64 1)) 3, type := 3, pos := _, after := _, guard := none }) (v := ?_) rfl (by kernel_rfl) (by kernel_rfl) (by kernel_rfl) (by kernel_rfl) (fun _ _ _ h => h) (Or.inl ⟨by rfl, ?hy4⟩) (Kept.refl _ _).drew ?_
          case hy4 => (intro W hSw; (try dsimp only at hSw); go_simp; try with_reducible rfl)
          try simp only [Act.put, List.setIfInBounds_toArray, List.set_cons_zero, List.set_cons_succ]
          refine Gz.take (i := 5) (oi := { dst := some 74, op := Op.binOp BinOp.eql 3 (Operand.tmp 70) (Operand.tmp 73) 3, type := 4, pos := _, after := _, guard := none }) (v := ?_) rfl (by kernel_rfl) (by kernel_rfl) (by kernel_rfl) (by kernel_rfl) (fun _ _ _ h => h) (Or.inl ⟨by rfl, ?hy5⟩) (Kept.refl _ _).drew ?_
          case hy5 => (intro W hSw; (try dsimp only at hSw); go_simp; try with_reducible rfl)
          try simp only [Act.put, List.setIfInBounds_toArray, List.set_cons_zero, List.set_cons_succ]
          refine Gz.take (i := 6) (oi := { dst := some 75, op := Op.move (Operand.tmp 74), type := 4, pos := _, after := _, guard := none }) (v := ?_) rfl (by kernel_rfl) (by kernel_rfl) (by kernel_rfl) (by kernel_rfl) (fun _ _ _ h => h) (Or.inl ⟨by rfl, ?hy6⟩) (Kept.refl _ _).drew ?_
          case hy6 => (intro W hSw; (try dsimp only at hSw); go_simp; try with_reducible rfl)
          try simp only [Act.put, List.setIfInBounds_toArray, List.set_cons_zero, List.set_cons_succ]
          refine Gz.take (i := 7) (oi := { dst := some 76, op := Op.move (Operand.tmp 9), type := 22, pos := _, after := _, guard := some (6, true) }) (v := ?_) rfl (by kernel_rfl) (by kernel_rfl) (by kernel_rfl) (by kernel_rfl) (fun _ _ _ h => h) (Or.inl ⟨by rfl, ?hy7⟩) (Kept.refl _ _).drew ?_
          case hy7 => (intro W hSw; (try dsimp only at hSw); go_simp; try with_reducible rfl)
          try simp only [Act.put, List.setIfInBounds_toArray, List.set_cons_zero, List.set_cons_succ]
          refine Gz.take (i := 8) (oi := { dst := some 77, op := Op.move (Operand.tmp 0), type := 24, pos := _, after := _, guard := some (6, true) }) (v := ?_) rfl (by kernel_rfl) (by kernel_rfl) (by kernel_rfl) (by kernel_rfl) (fun _ _ _ h => h) (Or.inl ⟨by rfl, ?hy8⟩) (Kept.refl _ _).drew ?_
          case hy8 => (intro W hSw; (try dsimp only at hSw); go_simp; try with_reducible rfl)
          try simp only [Act.put, List.setIfInBounds_toArray, List.set_cons_zero, List.set_cons_succ]
          refine Gz.take (i := 9) (oi := { dst := some 78, op := Op.call { callee := Callee.builtin Builtin.len, args := #[Operand.tmp 77], argTypes := #[24] }, type := 3, pos := _, after := _, guard := some (6, true) }) (v := ?_) rfl (by kernel_rfl) (by kernel_rfl) (by kernel_rfl) (by kernel_rfl) (fun _ _ _ h => h) (Or.inl ⟨by rfl, ?hy9⟩) (Kept.refl _ _).drew ?_
          case hy9 => (intro W hSw; (try dsimp only at hSw); go_simp; try with_reducible rfl)
          try simp only [Act.put, List.setIfInBounds_toArray, List.set_cons_zero, List.set_cons_succ]
          refine Gz.take (i := 10) (oi := { dst := some 79, op := Op.indexAddr 22 (Operand.tmp 76) (Operand.tmp 78), type := 0, pos := _, after := _, guard := some (6, true) }) (v := ?_) rfl (by kernel_rfl) (by kernel_rfl) (by kernel_rfl) (by kernel_rfl) (fun _ _ _ h => h) (Or.inl ⟨by rfl, ?hy10⟩) (Kept.refl _ _).drew ?_
          case hy10 => (intro W hSw; (try dsimp only at hSw); go_simp; try with_reducible rfl)
          try simp only [Act.put, List.setIfInBounds_toArray, List.set_cons_zero, List.set_cons_succ]
          refine Gz.take (i := 11) (oi := { dst := some 80, op := Op.fieldAddr 27 (Operand.tmp 79) 1, type := 0, pos := _, after := _, guard := some (6, true) }) (v := ?_) rfl (by kernel_rfl) (by kernel_rfl) (by kernel_rfl) (by kernel_rfl) (fun _ _ _ h => h) (Or.inl ⟨by rfl, ?hy11⟩) (Kept.refl _ _).drew ?_
          case hy11 => (intro W hSw; (try dsimp only at hSw); go_simp; try with_reducible rfl)
          try simp only [Act.put, List.setIfInBounds_toArray, List.set_cons_zero, List.set_cons_succ]
          refine Gz.take (i := 12) (oi := { dst := some 81, op := Op.load 25 (Operand.tmp 80), type := 25, pos := _, after := _, guard := some (6, true) }) (v := _) rfl (by kernel_rfl) (by kernel_rfl) (by kernel_rfl) (by kernel_rfl) (fun _ _ _ h => h) (yieldsIf_load_mid (by rfl) _ _ rfl (g10) (i * 33 + 1) rfl (cells hz') _ (fun W hW => range_tl (range_kept hr10 hW hg10 trivial)) Try.underlying25 rfl (ih10)) (Kept.refl _ _).drew ?_
          try simp only [Act.put, List.setIfInBounds_toArray, List.set_cons_zero, List.set_cons_succ]
          refine Gz.take (i := 13) (oi := { dst := some 82, op := Op.load 25 (Operand.tmp 6), type := 25, pos := _, after := _, guard := some (6, true) }) (v := _) rfl (by kernel_rfl) (by kernel_rfl) (by kernel_rfl) (by kernel_rfl) (fun _ _ _ h => h) (yieldsIf_load_mid (by rfl) _ _ rfl (B) (0) rfl (cells hz) _ (fun W hW => (ARX.out.kept hW trivial).range) Try.underlying25 rfl (ihz)) (Kept.refl _ _).drew ?_
          try simp only [Act.put, List.setIfInBounds_toArray, List.set_cons_zero, List.set_cons_succ]
          refine Gz.take (i := 14) (oi := { dst := some 83, op := Op.move (Operand.tmp 8), type := 9, pos := _, after := _, guard := some (6, true) }) (v := ?_) rfl (by kernel_rfl) (by kernel_rfl) (by kernel_rfl) (by kernel_rfl) (fun _ _ _ h => h) (Or.inl ⟨by rfl, ?hy14⟩) (Kept.refl _ _).drew ?_
          case hy14 => (intro W hSw; (try dsimp only at hSw); go_simp; try with_reducible rfl)
          try simp only [Act.put, List.setIfInBounds_toArray, List.set_cons_zero, List.set_cons_succ]
          refine Gz.one (i := 15) (o := { dst := some 84, op := Op.call { callee := Callee.value (Operand.func 27), args := #[Operand.tmp 82, Operand.tmp 83], argTypes := #[25, 9] }, type := 25, pos := _, after := _, guard := some (6, true) }) (by kernel_rfl) rfl (fun K hK => ?_)
          go_simp
          with_reducible refine Calls.mono (cnx _) ?_
          rintro e w11 ⟨rfl, k11⟩
          have s11 : Kept (fun _ => True) w10 w11 := (Kept.refl _ _).drew.trans k11
          try go_wp2_with fail
          refine hK.out _ _ (fun _ => s11) ?_
          clear hK K
          try simp only [Act.put, List.setIfInBounds_toArray, List.set_cons_zero, List.set_cons_succ]
          refine Gz.to (S' := fun W => Kept (fun _ => True) w11 W) (fun W q => s11.trans q) _ _ _ _ ?_
          refine Gz.take (i := 16) (oi := { dst := some 85, op := Op.binOp BinOp.eql 25 (Operand.tmp 81) (Operand.tmp 84) 25, type := 4, pos := _, after := _, guard := some (6, true) }) (v := ?_) rfl (by kernel_rfl) (by kernel_rfl) (by kernel_rfl) (by kernel_rfl) (fun _ _ _ h => h) (Or.inl ⟨by rfl, ?hy16⟩) (Kept.refl _ _) ?_
          case hy16 => (intro W hSw; (try dsimp only at hSw); go_simp; try with_reducible rfl)
          try simp only [Act.put, List.setIfInBounds_toArray, List.set_cons_zero, List.set_cons_succ]
          refine Gz.take (i := 17) (oi := { dst := some 86, op := Op.pick (Operand.tmp 75) (Operand.tmp 85) (Operand.const (Value.bool false)), type := 4, pos := _, after := _, guard := none }) (v := ?_) rfl (by kernel_rfl) (by kernel_rfl) (by kernel_rfl) (by kernel_rfl) (fun _ _ _ h => h) (Or.inl ⟨by rfl, ?hy17⟩) (Kept.refl _ _) ?_
          case hy17 => (intro W hSw; (try dsimp only at hSw); go_simp; try with_reducible rfl)
          try simp only [Act.put, List.setIfInBounds_toArray, List.set_cons_zero, List.set_cons_succ]
          refine Gz.take (i := 18) (oi := { dst := some 87, op := Op.move (Operand.tmp 86), type := 4, pos := _, after := _, guard := none }) (v := ?_) rfl (by kernel_rfl) (by kernel_rfl) (by kernel_rfl) (by kernel_rfl) (fun _ _ _ h => h) (Or.inl ⟨by rfl, ?hy18⟩) (Kept.refl _ _) ?_
          case hy18 => (intro W hSw; (try dsimp only at hSw); go_simp; try with_reducible rfl)
          try simp only [Act.put, List.setIfInBounds_toArray, List.set_cons_zero, List.set_cons_succ]
          refine Gz.take (i := 19) (oi := { dst := some 88, op := Op.move (Operand.tmp 5), type := 22, pos := _, after := _, guard := some (18, true) }) (v := ?_) rfl (by kernel_rfl) (by kernel_rfl) (by kernel_rfl) (by kernel_rfl) (fun _ _ _ h => h) (Or.inl ⟨by rfl, ?hy19⟩) (Kept.refl _ _) ?_
          case hy19 => (intro W hSw; (try dsimp only at hSw); go_simp; try with_reducible rfl)
          try simp only [Act.put, List.setIfInBounds_toArray, List.set_cons_zero, List.set_cons_succ]
          refine Gz.take (i := 20) (oi := { dst := some 89, op := Op.move (Operand.tmp 9), type := 22, pos := _, after := _, guard := some (18, true) }) (v := ?_) rfl (by kernel_rfl) (by kernel_rfl) (by kernel_rfl) (by kernel_rfl) (fun _ _ _ h => h) (Or.inl ⟨by rfl, ?hy20⟩) (Kept.refl _ _) ?_
          case hy20 => (intro W hSw; (try dsimp only at hSw); go_simp; try with_reducible rfl)
          try simp only [Act.put, List.setIfInBounds_toArray, List.set_cons_zero, List.set_cons_succ]
          refine Gz.one (i := 21) (o := { dst := some 90, op := Op.call { callee := Callee.value (Operand.func 21), args := #[Operand.tmp 88, Operand.tmp 89], argTypes := #[22, 22] }, type := 4, pos := _, after := _, guard := some (18, true) }) (by kernel_rfl) rfl (fun K hK => ?_)
          go_simp
          with_reducible refine Calls.mono (CP _ s11) ?_
          rintro e w12 ⟨rfl, k12⟩
          try go_wp2_with fail
          refine hK.out _ _ (fun _ => k12) ?_
          clear hK K
          try simp only [Act.put, List.setIfInBounds_toArray, List.set_cons_zero, List.set_cons_succ]
          refine Gz.to (S' := fun W => Kept (fun _ => True) w12 W) (fun W q => k12.trans q) _ _ _ _ ?_
          refine Gz.take (i := 22) (oi := { dst := some 91, op := Op.pick (Operand.tmp 87) (Operand.tmp 90) (Operand.const (Value.bool false)), type := 4, pos := _, after := _, guard := none }) (v := ?_) rfl (by kernel_rfl) (by kernel_rfl) (by kernel_rfl) (by kernel_rfl) (fun _ _ _ h => h) (Or.inl ⟨by rfl, ?hy22⟩) (Kept.refl _ _) ?_
          case hy22 => (intro W hSw; (try dsimp only at hSw); go_simp; try with_reducible rfl)
          try simp only [Act.put, List.setIfInBounds_toArray, List.set_cons_zero, List.set_cons_succ]
          refine Gz.take (i := 23) (oi := { dst := some 92, op := Op.move (Operand.tmp 91), type := 4, pos := _, after := _, guard := none }) (v := ?_) rfl (by kernel_rfl) (by kernel_rfl) (by kernel_rfl) (by kernel_rfl) (fun _ _ _ h => h) (Or.inl ⟨by rfl, ?hy23⟩) (Kept.refl _ _) ?_
          case hy23 => (intro W hSw; (try dsimp only at hSw); go_simp; try with_reducible rfl)
          try simp only [Act.put, List.setIfInBounds_toArray, List.set_cons_zero, List.set_cons_succ]
          refine Gz.one (i := 24) (o := { dst := some 93, op := Op.call { callee := Callee.value (Operand.func 14), args := #[], argTypes := #[] }, type := 4, pos := _, after := _, guard := some (23, true) }) (by kernel_rfl) rfl (fun K hK => ?_)
          go_simp
          with_reducible refine Calls.mono (known_any _) ?_
          rintro e w13 ⟨rfl, k13⟩
          try go_wp2_with fail
          refine hK.out _ _ (fun _ => k13) ?_
          clear hK K
          try simp only [Act.put, List.setIfInBounds_toArray, List.set_cons_zero, List.set_cons_succ]
          refine Gz.to (S' := fun W => Kept (fun _ => True) w13 W) (fun W q => k13.trans q) _ _ _ _ ?_
          refine Gz.take (i := 25) (oi := { dst := some 94, op := Op.pick (Operand.tmp 92) (Operand.tmp 93) (Operand.const (Value.bool false)), type := 4, pos := _, after := _, guard := none }) (v := ?_) rfl (by kernel_rfl) (by kernel_rfl) (by kernel_rfl) (by kernel_rfl) (fun _ _ _ h => h) (Or.inl ⟨by rfl, ?hy25⟩) (Kept.refl _ _) ?_
          case hy25 => (intro W hSw; (try dsimp only at hSw); go_simp; try with_reducible rfl)
          try simp only [Act.put, List.setIfInBounds_toArray, List.set_cons_zero, List.set_cons_succ]
          refine Gz.take (i := 26) (oi := { dst := some 4, op := Op.assign (Operand.tmp 94), type := 4, pos := _, after := _, guard := none }) (v := ?_) rfl (by kernel_rfl) (by kernel_rfl) (by kernel_rfl) (by kernel_rfl) (fun _ _ _ h => h) (Or.inl ⟨by rfl, ?hy26⟩) (Kept.refl _ _) ?_
          case hy26 => (intro W hSw; (try dsimp only at hSw); go_simp; try with_reducible rfl)
          try simp only [Act.put, List.setIfInBounds_toArray, List.set_cons_zero, List.set_cons_succ]
          refine Gz.done (by kernel_rfl) ?_ _
          go_wp2_with fail
          go_ret
          exact ⟨rfl, KX.out.trans ((s11.trans k12).trans k13)⟩

end Go.Proofs.Ytciecjnmiacmeaa
