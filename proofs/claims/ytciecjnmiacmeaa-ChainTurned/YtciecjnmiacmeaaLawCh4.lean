/-
  ChainTurned: it answers true for all texts.
-/
import Derived.Test.YtciecjnmiacmeaaZ10
import Derived.Test.YtciecjnmiacmeaaZ12
import Derived.Test.YtciecjnmiacmeaaMGz
import Derived.Test.YtciecjnmiacmeaaYTx
import Derived.Test.YtciecjnmiacmeaaSWithin
namespace Go.Proofs.Ytciecjnmiacmeaa
open Go.RowKit

theorem txs_set {w : World} {base g n c : Nat} {ss : List (List UInt8)} (h : Txs w base (.slice (some ⟨g, 0, none⟩) n c) ss) (k : Nat) (t : List UInt8) : Txs (w.setCell ⟨g, k, none⟩ (.string ⟨t.toArray⟩)) base (.slice (some ⟨g, 0, none⟩) n c) (ss.set k t) := by
  have hn : n = ss.length := by
    obtain ⟨_, _, e, _⟩ := h.shape
    injection e
  subst hn
  have h1 := (World.ownsRow.stored h k (.string ⟨t.toArray⟩)).1
  unfold Txs
  have e : srow (ss.set k t) = (srow ss).set k (.string ⟨t.toArray⟩) := by simp [srow, List.map_set]
  rw [e, List.length_set]
  exact h1
theorem txs_row {w : World} {base g n c : Nat} {ss : List (List UInt8)} (h : Txs w base (.slice (some ⟨g, 0, none⟩) n c) ss) (k : Nat) (hk : k < ss.length) : (∃ u, w.cell? ⟨g, k, none⟩ = some u) ∧ w.frozen? ⟨g, k, none⟩ = false := by
  have hn : n = ss.length := by
    obtain ⟨_, _, e, _⟩ := h.shape
    injection e
  subst hn
  exact ⟨⟨_, h.cell k hk⟩, World.ownsRow.frozenAt h k⟩
theorem txs_newT (w : World) (base : Nat) (hb : base ≤ w.heap.size) : Txs (w.alloc (.cells #[] 9)) base (.slice (some ⟨w.heap.size, 0, none⟩) 0 0) [] :=
  ⟨by simp [srow], .inr ⟨w.heap.size, 0, #[], rfl, hb, heap_alloc_new w _, Nat.zero_le _, by unfold maxLen; omega, by simp, by simp [srow]⟩⟩
theorem mkC_inj {T U : List (List UInt8)} (h : mkC T = mkC U) : T = U := by
  have := congrArg txs h
  rwa [txs_mkC, txs_mkC] at this
theorem pre_same {T U : List (List UInt8)} (h : T.length = U.length) : pre (mkC T) (mkC U) ↔ T = U := by
  unfold pre
  rw [mkC_length, mkC_length, ← h, Nat.min_self, List.take_of_length_le (by rw [mkC_length]; exact Nat.le_refl _), List.take_of_length_le (by rw [mkC_length, h]; exact Nat.le_refl _)]
  exact ⟨mkC_inj, fun e => by rw [e]⟩
theorem hAt_cong {T U : List (List UInt8)} {n : Nat} (h : T.take n = U.take n) : hAt zero32 T n = hAt zero32 U n := by
  unfold hAt
  rw [h]

set_option maxRecDepth 100000 in
set_option maxHeartbeats 4000000 in
theorem chainTurned_any {w : World} {ao : Option Addr} {cap : Nat} {ss : List (List UInt8)} (h : Tv w ao ss) (at_ : Int) (more : List UInt8) :
    Calls Try.prog 6 #[.slice ao ss.length cap, .int .i64 at_, .string ⟨more.toArray⟩] w fun e w' => e = .returned (.bool true) ∧ Kept (fun _ => True) w w' := by
  have CF := fewL_any (cap := cap) 8 (by decide) h
  obtain ⟨T, hT⟩ : ∃ T, T = fewP ss 8 := ⟨_, rfl⟩
  have sT : ∀ s ∈ T, s.length ≤ 100 := fun s hs => by rw [hT] at hs; exact fewP_short hs
  have lT : T.length ≤ 8 := by rw [hT, fewP_length]; omega
  rw [← hT] at CF
  clear hT h
  obtain ⟨M, hM⟩ : ∃ M, M = more.take 100 := ⟨_, rfl⟩
  have sM : M.length ≤ 100 := by rw [hM]; simp; omega
  have CF2 : ∀ (W : World) (g : Nat), W.heap[g]? = some (.cells #[.string ⟨more.toArray⟩] 9 (0, 0)) → Calls Try.prog 15 #[.slice (some ⟨g, 0, none⟩) 1 1, .int .i64 1] W fun e w' => ∃ g' c', e = .returned (.slice (some ⟨g', 0, none⟩) 1 c') ∧ w'.cell? ⟨g', 0, none⟩ = some (.string ⟨M.toArray⟩) ∧ Kept (fun _ => True) W w' := fun W g hg => by
    have := fewL_any (cap := 1) 1 (by decide) (tv_new (ss := [more]) hg)
    have e1 : fewP [more] 1 = [M] := by rw [hM]; rfl
    rw [e1] at this
    refine this.mono ?_
    rintro e w' ⟨a', c', rfl, ht, k⟩
    obtain ⟨ao', cap', e0, _, hgg⟩ := ht.shape
    injection e0 with e1 e2 e3
    subst e1
    obtain ⟨g', rfl⟩ := hgg (by simp)
    exact ⟨g', c', rfl, ht.cell 0 (by simp), k⟩
  clear hM
  obtain ⟨N, hN⟩ : ∃ N, T.length = N := ⟨_, rfl⟩
  rw [hN] at CF
  by_cases h0 : N = 0
  · as_aux_lemma =>
      subst h0
      go_enter Try.func6, Try.ntmps6
      go_wp2_with (first
        | (go_at_call 15; (with_reducible refine Calls.mono CF ?_); rintro e w1 ⟨a1, c1, rfl, _, k1⟩)
        | (go_at_call 14; (with_reducible refine Calls.mono (known_any _) ?_); rintro e w10 ⟨rfl, k10⟩))
      go_ret
      exact ⟨rfl, k1.trans k10⟩
  obtain ⟨n, hn⟩ : ∃ n, N = n + 1 := ⟨N - 1, by omega⟩
  have hNn : (N : Int) - 1 = (n : Int) := by omega
  have hN0 : ((N : Int) == 0) = false := by simp only [beq_eq_false_iff_ne]; omega
  have CW := fun (W : World) => within_any (w := W) at_ n (by omega)
  have CM : ∀ (U : List (List UInt8)), U.length = N → (∀ s ∈ U, s.length ≤ 100) → ∀ (W : World) (a : Option Addr) (c : Nat), Tv W a U → Calls Try.prog 8 #[.slice a N c] W fun e w' => ∃ a' c', e = .returned (.slice a' N c') ∧ Lo 27 w' W.heap.size (.slice a' N c') (mkC U) ∧ Kept (fun _ => True) W w' := fun U hU sU W a c hv => by
    have := make_any (cap := c) hv (by omega) (fun t ht => by have := sU t ht; omega)
    rwa [mkC_length, hU] at this
  have HN : Hid (T.length = N) := hN
  have HT : Hid (∀ s ∈ T, s.length ≤ 100) := sT
  have HNn : Hid (N = n + 1) := hn
  clear hn sT h0
  go_enter Try.func6, Try.ntmps6
  go_wp2_with (first
    | (go_at_call 15; (with_reducible refine Calls.mono CF ?_); rintro e w1 ⟨a1, c1, rfl, ht1, k1⟩; have T1 : Hid (Txs w1 w.heap.size (.slice a1 N c1) T) := ht1; have Z1' : Hid (w.heap.size ≤ w1.heap.size) := k1.size; clear ht1)
    | (at_builtin; refine wpList_append_texts rfl (.tmp 19) (.tmp 20) rfl w1.heap.size w.heap.size (.slice (some ⟨w1.heap.size, 0, none⟩) 0 0) (.slice a1 N c1) [] T rfl (txs_newT w1 _ (Nat.le_refl _)) rfl (T1.out.kept ((Kept.refl (fun _ => True) w1).alloc _) (fun _ _ => trivial)) (by simp) (by rw [HN.out]; simp; omega) ?_; intro a2 c2 w2 ht2 hg2; simp only [List.length_nil, List.nil_append, Nat.zero_add, hN] at ht2; (obtain ⟨_, _, e0, _, hgg⟩ := ht2.shape); injection e0 with e1 e2 e3; subst e1; (obtain ⟨gm, rfl⟩ := hgg (by have := HN.out; have := HNn.out; omega)); have hgm := (World.ownsRow.lt ht2 _ rfl); have T2 : Hid (Txs w2 w1.heap.size (.slice (some ⟨gm, 0, none⟩) N c2) T) := ht2; have K2 : Hid (Kept (fun _ => True) w1 w2) := ((Kept.refl _ _).alloc _).grown hg2 (fun j hj e => by simp [Value.ownBlock] at e; omega); clear ht2 hg2 e2 e3 hgg)
    | (go_at_call 18; (with_reducible refine Calls.mono (CW w2) ?_); rintro e w3 ⟨⟨k, hk, rfl⟩, rfl⟩; have hkN : (k : Int) < (N : Int) := (by omega); have hk0 : (0 : Int) ≤ (k : Int) := (by omega))
    | (go_at_call 15; (with_reducible refine Calls.mono (CF2 _ w3.heap.size (heap_alloc_new w3 _)) ?_); rintro e w4 ⟨g4, c4, rfl, hc4, k4⟩; have K4 : Hid (Kept (fun _ => True) w3 w4) := ((Kept.refl _ _).alloc _).trans k4; have T4 : Hid (Txs w4 w1.heap.size (.slice (some ⟨gm, 0, none⟩) N c2) T) := (T2.out.kept K4.out (fun _ _ => trivial)); obtain ⟨⟨u0, cm1⟩, cm0⟩ := txs_row T4.out k (by have := HN.out; omega)))
  have hgm4 : w1.heap.size ≤ gm := hgm.1
  obtain ⟨U, hU⟩ : ∃ U, U = T.set k M := ⟨_, rfl⟩
  have lU : U.length = N := by rw [hU, List.length_set, hN]
  have hkT : k < T.length := by have := HNn.out; omega
  have sU : ∀ s ∈ U, s.length ≤ 100 := fun s hs => by
    rw [hU] at hs
    rcases List.mem_or_eq_of_mem_set hs with h1 | h1
    · exact HT.out s h1
    · rw [h1]; exact sM
  have HU : Hid (Txs (w4.setCell ⟨gm, k, none⟩ (.string ⟨M.toArray⟩)) w1.heap.size (.slice (some ⟨gm, 0, none⟩) N c2) U) := by
    have h1 := txs_set T4.out k M
    rw [← hU] at h1
    exact h1
  have KS : Kept (fun _ => True) w1 (w4.setCell ⟨gm, k, none⟩ (.string ⟨M.toArray⟩)) := (K2.out.trans K4.out).then ((Kept.refl (· ≠ gm) _).setCell (by simp) _) (fun i hi _ => by omega)
  have TT : Hid (Txs (w4.setCell ⟨gm, k, none⟩ (.string ⟨M.toArray⟩)) w.heap.size (.slice a1 N c1) T) := T1.out.kept KS (fun _ _ => trivial)
  have KW0 : Hid (Kept (fun _ => True) w (w4.setCell ⟨gm, k, none⟩ (.string ⟨M.toArray⟩))) := k1.trans KS
  have hTU : Hid (∀ j (h1 : j < T.length) (h2 : j < U.length), j ≠ k → U[j] = T[j]) := fun j h1 h2 hj => by
    subst hU
    rw [List.getElem_set_ne (Ne.symm hj)]
  have hUk : U[k]'(by omega) = M := by
    subst hU
    exact List.getElem_set_self _
  have HUT : Hid (M = T[k] ↔ T = U) := by
    show _ ↔ _
    constructor
    · intro e
      rw [hU, e, List.set_getElem_self]
    · intro e
      have : U[k]'(by omega) = T[k] := by
        have h1 : ∀ (X : List (List UInt8)) (hx : k < X.length), T = X → X[k] = T[k] := fun X hx e => by subst e; rfl
        exact h1 U (by omega) e
      rw [hUk] at this
      exact this
  have HPRE : Hid (∀ j, j ≤ k → hAt zero32 T j = hAt zero32 U j) := fun j hj => by
    apply hAt_cong
    rw [hU, List.take_set_of_le hj]
  clear hU KS T4 T2 K4 K2 CF2 k4 hc4 k1 T1 cm1 cm0 hgm hgm4 CF
  generalize w4.setCell ⟨gm, k, none⟩ (.string ⟨M.toArray⟩) = w5 at *
  refine Calls.mono (CM T hN HT.out w5 a1 c1 TT.out.tv) ?_
  rintro e w6 ⟨a9, c9, rfl, ho9, k6⟩
  have H9 : Hid (Lo 27 w6 w5.heap.size (.slice a9 N c9) (mkC T)) := ho9
  clear ho9
  go_wp2_with (go_at_call 8; (with_reducible refine Calls.mono (CM U lU sU w6 (some ⟨gm, 0, none⟩) c2 (HU.out.tv.all k6)) ?_); rintro e w7 ⟨a10, c10, rfl, ho10, k7⟩)
  obtain ⟨ga, rfl, _, hga0, hc9⟩ := (H9.out.all k7).some3 (by have := HNn.out; omega)
  obtain ⟨gb, rfl, _, hgb0, hc10⟩ := ho10.some3 (by have := HNn.out; omega)
  have VA : Hid (Lv w7 (some ⟨ga, 0, none⟩) (mkC T)) := H9.out.view.all k7
  have VB : Hid (Lv w7 (some ⟨gb, 0, none⟩) (mkC U)) := ho10.view
  have T7 : Hid (Tv w7 a1 T) := TT.out.tv.all (k6.trans k7)
  have U7 : Hid (Tv w7 (some ⟨gm, 0, none⟩) U) := HU.out.tv.all (k6.trans k7)
  have KW : Hid (Kept (fun _ => True) w w7) := KW0.out.trans (k6.trans k7)
  have lka : (mkC T).length = N := by rw [mkC_length, hN]
  have lkb : (mkC U).length = N := by rw [mkC_length, lU]
  clear H9 ho10 k6 k7 TT HU KW0 CM
  obtain ⟨w5', hw5⟩ : ∃ x, x = w7 := ⟨_, rfl⟩
  rw [← hw5] at VA VB T7 U7 KW hga0 hgb0 ⊢
  clear hw5
  go_loopw [11] (fun t wr => ∃ i : Nat, i ≤ N ∧ t = .int .i64 i ∧ Kept (fun _ => True) w5' wr) (fun t _ => N - (intOf t).toNat)
  case atStart => exact ⟨0, Nat.zero_le _, rfl, Kept.refl _ _⟩
  case round =>
    obtain ⟨i, hi, rfl, kr⟩ := hrel
    by_cases hlt : i < N
    · have hlT : i < T.length := by omega
      obtain ⟨w6, hw6⟩ : ∃ x, x = wr := ⟨_, rfl⟩
      rw [← hw6] at kr ⊢
      clear hw6
      have hra : w6.rangeAt ga (i * 33) (.string ⟨(T[i]).toArray⟩ :: cells (hAt zero32 T (i + 1))) := by
        obtain ⟨_, _, e2, _, hv⟩ := (VA.out.all kr).row (by rw [lka]; omega)
        injection e2 with e2
        injection e2 with e21 e22 e23
        subst e21 e22
        have h1 := hv i (by rw [lka]; exact hlt)
        rw [mkC_get T i hlT, Nat.zero_add] at h1
        exact h1
      have hrb : w6.rangeAt gb (i * 33) (.string ⟨(U[i]'(by omega)).toArray⟩ :: cells (hAt zero32 U (i + 1))) := by
        obtain ⟨_, _, e2, _, hv⟩ := (VB.out.all kr).row (by rw [lkb]; omega)
        injection e2 with e2
        injection e2 with e21 e22 e23
        subst e21 e22
        have h1 := hv i (by rw [lkb]; exact hlt)
        rw [mkC_get U i (by omega), Nat.zero_add] at h1
        exact h1
      obtain ⟨b1, o1, rfl, hb1, hc1⟩ := T7.out (by omega)
      obtain ⟨_, _, e5, hb2, hc2⟩ := U7.out (by omega)
      injection e5 with e5
      injection e5 with e51 e52 e53
      subst e51 e52
      have ck0 := hc1 k hkT
      have cm0 := hc2 k (by omega)
      rw [hUk, Nat.zero_add] at cm0
      have lha : (hAt zero32 T (i + 1)).length = 32 := hAt_len zero32_len _ _
      have lhb : (hAt zero32 U (i + 1)).length = 32 := hAt_len zero32_len _ _
      have he := fun (w0 : World) => eq32 (hAt zero32 T (i + 1)) (hAt zero32 U (i + 1)) lha lhb w0
      have hs1 : i < k → (hAt zero32 T (i + 1) == hAt zero32 U (i + 1)) = true := fun hik => by rw [HPRE.out (i + 1) hik]; exact beq_self_eq_true _
      have hs2 : M = T[k] → (hAt zero32 T (i + 1) == hAt zero32 U (i + 1)) = true := fun e => by rw [HUT.out.1 e]; exact beq_self_eq_true _
      have hga := Nat.lt_of_lt_of_le hga0 kr.size
      have hgb := Nat.lt_of_lt_of_le hgb0 kr.size
      generalize hAt zero32 T (i + 1) = ha at *
      generalize hAt zero32 U (i + 1) = hb at *
      generalize (ha == hb) = sm at *
      have HS1 : Hid (i < k → sm = true) := hs1
      have HS2 : Hid (M = T[k] → sm = true) := hs2
      generalize T[k] = tk at *
      generalize U[i] = ui at *
      generalize T[i] = ti at *
      have iha : (Try.prog.info? 25).map (·.size) = some (cells ha).length := by rw [cells_length, lha]; exact arr32.size
      have ihb : (Try.prog.info? 25).map (·.size) = some (cells hb).length := by rw [cells_length, lhb]; exact arr32.size
      have hgd := guard32
      have kd6 : Kept (fun _ => True) w6 w6.drew := (Kept.refl _ _).drew
      have i0 : (0 : Int) ≤ (i : Int) := by omega
      have i1 : (i : Int) < (N : Int) := by omega
      have KR : Hid (Kept (fun _ => True) w5' w6) := kr
      have ckk0 : Hid (∀ W, Kept (fun _ => True) w6.drew W → W.cell? ⟨b1, o1 + k, none⟩ = some (.string ⟨tk.toArray⟩)) := fun W hW => (kept_cell (kr.drew.trans hW) hb1 trivial).trans ck0
      have cmm0 : Hid (∀ W, Kept (fun _ => True) w6.drew W → W.cell? ⟨gm, k, none⟩ = some (.string ⟨M.toArray⟩)) := fun W hW => (kept_cell (kr.drew.trans hW) hb2 trivial).trans cm0
      clear hs1 hs2 ck0 cm0 hc1 hc2 lha lhb e53 kr HPRE HUT hTU hUk hb1 hb2 sU
      go_wp2
      refine Gz.begin (fun W => Kept (fun _ => True) w6 W) (fun _ => false) (by kernel_rfl) ?_
      refine Gz.take (i := 0) (oi := { dst := some 57, op := Op.move (Operand.tmp 9), type := 22, pos := _, after := _, guard := none }) (v := ?_) rfl (by kernel_rfl) (by kernel_rfl) (by kernel_rfl) (by kernel_rfl) (fun _ _ _ h => h) (Or.inl ⟨by rfl, ?hy0⟩) kd6 ?_
      case hy0 => (intro W hSw; (try dsimp only at hSw); go_simp; try with_reducible rfl)
      try simp only [Act.put, List.setIfInBounds_toArray, List.set_cons_zero, List.set_cons_succ]
      refine Gz.take (i := 1) (oi := { dst := some 58, op := Op.move (Operand.tmp 11), type := 3, pos := _, after := _, guard := none }) (v := ?_) rfl (by kernel_rfl) (by kernel_rfl) (by kernel_rfl) (by kernel_rfl) (fun _ _ _ h => h) (Or.inl ⟨by rfl, ?hy1⟩) kd6 ?_
      case hy1 => (intro W hSw; (try dsimp only at hSw); go_simp; try with_reducible rfl)
      try simp only [Act.put, List.setIfInBounds_toArray, List.set_cons_zero, List.set_cons_succ]
      refine Gz.take (i := 2) (oi := { dst := some 59, op := Op.indexAddr 22 (Operand.tmp 57) (Operand.tmp 58), type := 0, pos := _, after := _, guard := none }) (v := ?_) rfl (by kernel_rfl) (by kernel_rfl) (by kernel_rfl) (by kernel_rfl) (fun _ _ _ h => h) (Or.inl ⟨by rfl, ?hy2⟩) kd6 ?_
      case hy2 => (intro W hSw; (try dsimp only at hSw); go_simp; try with_reducible rfl)
      try simp only [Act.put, List.setIfInBounds_toArray, List.set_cons_zero, List.set_cons_succ]
      refine Gz.take (i := 3) (oi := { dst := some 60, op := Op.fieldAddr 27 (Operand.tmp 59) 1, type := 0, pos := _, after := _, guard := none }) (v := ?_) rfl (by kernel_rfl) (by kernel_rfl) (by kernel_rfl) (by kernel_rfl) (fun _ _ _ h => h) (Or.inl ⟨by rfl, ?hy3⟩) kd6 ?_
      case hy3 => (intro W hSw; (try dsimp only at hSw); go_simp; try with_reducible rfl)
      try simp only [Act.put, List.setIfInBounds_toArray, List.set_cons_zero, List.set_cons_succ]
      refine Gz.take (i := 4) (oi := { dst := some 61, op := Op.load 25 (Operand.tmp 60), type := 25, pos := _, after := _, guard := none }) (v := _) rfl (by kernel_rfl) (by kernel_rfl) (by kernel_rfl) (by kernel_rfl) (fun _ _ _ h => h) (yieldsIf_load_mid (by rfl) _ _ rfl (ga) (i * 33 + 1) rfl (cells ha) _ (fun W hW => range_tl (range_kept hra hW hga trivial)) Try.underlying25 rfl (iha)) kd6 ?_
      try simp only [Act.put, List.setIfInBounds_toArray, List.set_cons_zero, List.set_cons_succ]
      refine Gz.take (i := 5) (oi := { dst := some 62, op := Op.move (Operand.tmp 10), type := 22, pos := _, after := _, guard := none }) (v := ?_) rfl (by kernel_rfl) (by kernel_rfl) (by kernel_rfl) (by kernel_rfl) (fun _ _ _ h => h) (Or.inl ⟨by rfl, ?hy5⟩) kd6 ?_
      case hy5 => (intro W hSw; (try dsimp only at hSw); go_simp; try with_reducible rfl)
      try simp only [Act.put, List.setIfInBounds_toArray, List.set_cons_zero, List.set_cons_succ]
      refine Gz.take (i := 6) (oi := { dst := some 63, op := Op.move (Operand.tmp 11), type := 3, pos := _, after := _, guard := none }) (v := ?_) rfl (by kernel_rfl) (by kernel_rfl) (by kernel_rfl) (by kernel_rfl) (fun _ _ _ h => h) (Or.inl ⟨by rfl, ?hy6⟩) kd6 ?_
      case hy6 => (intro W hSw; (try dsimp only at hSw); go_simp; try with_reducible rfl)
      try simp only [Act.put, List.setIfInBounds_toArray, List.set_cons_zero, List.set_cons_succ]
      refine Gz.take (i := 7) (oi := { dst := some 64, op := Op.indexAddr 22 (Operand.tmp 62) (Operand.tmp 63), type := 0, pos := _, after := _, guard := none }) (v := ?_) rfl (by kernel_rfl) (by kernel_rfl) (by kernel_rfl) (by kernel_rfl) (fun _ _ _ h => h) (Or.inl ⟨by rfl, ?hy7⟩) kd6 ?_
      case hy7 => (intro W hSw; (try dsimp only at hSw); go_simp; try with_reducible rfl)
      try simp only [Act.put, List.setIfInBounds_toArray, List.set_cons_zero, List.set_cons_succ]
      refine Gz.take (i := 8) (oi := { dst := some 65, op := Op.fieldAddr 27 (Operand.tmp 64) 1, type := 0, pos := _, after := _, guard := none }) (v := ?_) rfl (by kernel_rfl) (by kernel_rfl) (by kernel_rfl) (by kernel_rfl) (fun _ _ _ h => h) (Or.inl ⟨by rfl, ?hy8⟩) kd6 ?_
      case hy8 => (intro W hSw; (try dsimp only at hSw); go_simp; try with_reducible rfl)
      try simp only [Act.put, List.setIfInBounds_toArray, List.set_cons_zero, List.set_cons_succ]
      refine Gz.take (i := 9) (oi := { dst := some 66, op := Op.load 25 (Operand.tmp 65), type := 25, pos := _, after := _, guard := none }) (v := _) rfl (by kernel_rfl) (by kernel_rfl) (by kernel_rfl) (by kernel_rfl) (fun _ _ _ h => h) (yieldsIf_load_mid (by rfl) _ _ rfl (gb) (i * 33 + 1) rfl (cells hb) _ (fun W hW => range_tl (range_kept hrb hW hgb trivial)) Try.underlying25 rfl (ihb)) kd6 ?_
      try simp only [Act.put, List.setIfInBounds_toArray, List.set_cons_zero, List.set_cons_succ]
      refine Gz.take (i := 10) (oi := { dst := some 67, op := Op.binOp BinOp.eql 25 (Operand.tmp 61) (Operand.tmp 66) 25, type := 4, pos := _, after := _, guard := none }) (v := ?_) rfl (by kernel_rfl) (by kernel_rfl) (by kernel_rfl) (by kernel_rfl) (fun _ _ _ h => h) (Or.inl ⟨by rfl, ?hy10⟩) kd6 ?_
      case hy10 => (intro W hSw; (try dsimp only at hSw); go_simp; try with_reducible rfl)
      try simp only [Act.put, List.setIfInBounds_toArray, List.set_cons_zero, List.set_cons_succ]
      refine Gz.take (i := 11) (oi := { dst := some 12, op := Op.assign (Operand.tmp 67), type := 4, pos := _, after := _, guard := none }) (v := ?_) rfl (by kernel_rfl) (by kernel_rfl) (by kernel_rfl) (by kernel_rfl) (fun _ _ _ h => h) (Or.inl ⟨by rfl, ?hy11⟩) kd6 ?_
      case hy11 => (intro W hSw; (try dsimp only at hSw); go_simp; try with_reducible rfl)
      try simp only [Act.put, List.setIfInBounds_toArray, List.set_cons_zero, List.set_cons_succ]
      refine Gz.done (by kernel_rfl) ?_ _
      go_wp2_with fail
      have K7 : Hid (Kept (fun _ => True) w5' w6.drew) := KR.out.drew
      clear KR he hra hrb iha ihb kd6 hga hgb
      have ckk := ckk0.out
      have cmm := cmm0.out
      clear ckk0 cmm0
      generalize w6.drew = w7 at *
      by_cases hik : i < k
      · obtain rfl : sm = true := HS1.out hik
        have i2 : (i : Int) < (k : Int) := by omega
        have i3 : ¬ (k : Int) ≤ (i : Int) := by omega
        have i4 : ¬ k ≤ i := by omega
        by_cases hq : M = tk
        · subst hq
          clear HS1 HS2
          as_aux_lemma =>
            obtain ⟨w8, hw8⟩ : ∃ x, x = w7 := ⟨_, rfl⟩
            rw [← hw8] at K7 ⊢
            have ck : ∀ W, Kept (fun _ => True) w8 W → W.cell? ⟨b1, o1 + k, none⟩ = some (.string ⟨M.toArray⟩) := fun W hW => ckk W (by rw [hw8] at hW; exact hW)
            have cm : ∀ W, Kept (fun _ => True) w8 W → W.cell? ⟨gm, k, none⟩ = some (.string ⟨M.toArray⟩) := fun W hW => cmm W (by rw [hw8] at hW; exact hW)
            clear ckk cmm hw8
            refine Gz.begin (fun W => Kept (fun _ => True) w8 W) (fun _ => false) (by kernel_rfl) ?_
            refine Gz.take (i := 0) (oi := { dst := some 68, op := Op.move (Operand.tmp 11), type := 3, pos := _, after := _, guard := none }) (v := ?_) rfl (by kernel_rfl) (by kernel_rfl) (by kernel_rfl) (by kernel_rfl) (fun _ _ _ h => h) (Or.inl ⟨by rfl, ?hy0⟩) (Kept.refl _ _).drew ?_
            case hy0 => (intro W hSw; (try dsimp only at hSw); go_simp; try with_reducible rfl)
            try simp only [Act.put, List.setIfInBounds_toArray, List.set_cons_zero, List.set_cons_succ]
            refine Gz.take (i := 1) (oi := { dst := some 69, op := Op.move (Operand.tmp 8), type := 3, pos := _, after := _, guard := none }) (v := ?_) rfl (by kernel_rfl) (by kernel_rfl) (by kernel_rfl) (by kernel_rfl) (fun _ _ _ h => h) (Or.inl ⟨by rfl, ?hy1⟩) (Kept.refl _ _).drew ?_
            case hy1 => (intro W hSw; (try dsimp only at hSw); go_simp; try with_reducible rfl)
            try simp only [Act.put, List.setIfInBounds_toArray, List.set_cons_zero, List.set_cons_succ]
            refine Gz.take (i := 2) (oi := { dst := some 70, op := Op.binOp BinOp.lss 3 (Operand.tmp 68) (Operand.tmp 69) 3, type := 4, pos := _, after := _, guard := none }) (v := ?_) rfl (by kernel_rfl) (by kernel_rfl) (by kernel_rfl) (by kernel_rfl) (fun _ _ _ h => h) (Or.inl ⟨by rfl, ?hy2⟩) (Kept.refl _ _).drew ?_
            case hy2 => (intro W hSw; (try dsimp only at hSw); go_simp; try with_reducible rfl)
            try simp only [Act.put, List.setIfInBounds_toArray, List.set_cons_zero, List.set_cons_succ]
            refine Gz.take (i := 3) (oi := { dst := some 71, op := Op.move (Operand.tmp 70), type := 4, pos := _, after := _, guard := none }) (v := ?_) rfl (by kernel_rfl) (by kernel_rfl) (by kernel_rfl) (by kernel_rfl) (fun _ _ _ h => h) (Or.inl ⟨by rfl, ?hy3⟩) (Kept.refl _ _).drew ?_
            case hy3 => (intro W hSw; (try dsimp only at hSw); go_simp; try with_reducible rfl)
            try simp only [Act.put, List.setIfInBounds_toArray, List.set_cons_zero, List.set_cons_succ]
            refine Gz.take (i := 4) (oi := { dst := some 72, op := Op.move (Operand.tmp 12), type := 4, pos := _, after := _, guard := some (3, true) }) (v := ?_) rfl (by kernel_rfl) (by kernel_rfl) (by kernel_rfl) (by kernel_rfl) (fun _ _ _ h => h) (Or.inl ⟨by rfl, ?hy4⟩) (Kept.refl _ _).drew ?_
            case hy4 => (intro W hSw; (try dsimp only at hSw); go_simp; try with_reducible rfl)
            try simp only [Act.put, List.setIfInBounds_toArray, List.set_cons_zero, List.set_cons_succ]
            refine Gz.take (i := 5) (oi := { dst := some 73, op := Op.unOp UnOp.not 4 (Operand.tmp 72), type := 4, pos := _, after := _, guard := some (3, true) }) (v := ?_) rfl (by kernel_rfl) (by kernel_rfl) (by kernel_rfl) (by kernel_rfl) (fun _ _ _ h => h) (Or.inl ⟨by rfl, ?hy5⟩) (Kept.refl _ _).drew ?_
            case hy5 => (intro W hSw; (try dsimp only at hSw); go_simp; try with_reducible rfl)
            try simp only [Act.put, List.setIfInBounds_toArray, List.set_cons_zero, List.set_cons_succ]
            refine Gz.take (i := 6) (oi := { dst := some 74, op := Op.pick (Operand.tmp 71) (Operand.tmp 73) (Operand.const (Value.bool false)), type := 4, pos := _, after := _, guard := none }) (v := ?_) rfl (by kernel_rfl) (by kernel_rfl) (by kernel_rfl) (by kernel_rfl) (fun _ _ _ h => h) (Or.inl ⟨by rfl, ?hy6⟩) (Kept.refl _ _).drew ?_
            case hy6 => (intro W hSw; (try dsimp only at hSw); go_simp; try with_reducible rfl)
            try simp only [Act.put, List.setIfInBounds_toArray, List.set_cons_zero, List.set_cons_succ]
            refine Gz.take (i := 7) (oi := { dst := some 75, op := Op.move (Operand.tmp 74), type := 4, pos := _, after := _, guard := none }) (v := ?_) rfl (by kernel_rfl) (by kernel_rfl) (by kernel_rfl) (by kernel_rfl) (fun _ _ _ h => h) (Or.inl ⟨by rfl, ?hy7⟩) (Kept.refl _ _).drew ?_
            case hy7 => (intro W hSw; (try dsimp only at hSw); go_simp; try with_reducible rfl)
            try simp only [Act.put, List.setIfInBounds_toArray, List.set_cons_zero, List.set_cons_succ]
            refine Gz.take (i := 8) (oi := { dst := some 76, op := Op.move (Operand.tmp 7), type := 24, pos := _, after := _, guard := some (7, false) }) (v := ?_) rfl (by kernel_rfl) (by kernel_rfl) (by kernel_rfl) (by kernel_rfl) (fun _ _ _ h => h) (Or.inl ⟨by rfl, ?hy8⟩) (Kept.refl _ _).drew ?_
            case hy8 => (intro W hSw; (try dsimp only at hSw); go_simp; try with_reducible rfl)
            try simp only [Act.put, List.setIfInBounds_toArray, List.set_cons_zero, List.set_cons_succ]
            refine Gz.take (i := 9) (oi := { dst := some 77, op := Op.move (Operand.tmp 8), type := 3, pos := _, after := _, guard := some (7, false) }) (v := ?_) rfl (by kernel_rfl) (by kernel_rfl) (by kernel_rfl) (by kernel_rfl) (fun _ _ _ h => h) (Or.inl ⟨by rfl, ?hy9⟩) (Kept.refl _ _).drew ?_
            case hy9 => (intro W hSw; (try dsimp only at hSw); go_simp; try with_reducible rfl)
            try simp only [Act.put, List.setIfInBounds_toArray, List.set_cons_zero, List.set_cons_succ]
            refine Gz.take (i := 10) (oi := { dst := some 78, op := Op.indexAddr 24 (Operand.tmp 76) (Operand.tmp 77), type := 0, pos := _, after := _, guard := some (7, false) }) (v := ?_) rfl (by kernel_rfl) (by kernel_rfl) (by kernel_rfl) (by kernel_rfl) (fun _ _ _ h => h) (Or.inl ⟨by rfl, ?hy10⟩) (Kept.refl _ _).drew ?_
            case hy10 => (intro W hSw; (try dsimp only at hSw); go_simp; try with_reducible rfl)
            try simp only [Act.put, List.setIfInBounds_toArray, List.set_cons_zero, List.set_cons_succ]
            refine Gz.take (i := 11) (oi := { dst := some 79, op := Op.load 9 (Operand.tmp 78), type := 9, pos := _, after := _, guard := some (7, false) }) (v := ?_) rfl (by kernel_rfl) (by kernel_rfl) (by kernel_rfl) (by kernel_rfl) (fun _ _ _ h => h) (Or.inl ⟨by rfl, ?hy11⟩) (Kept.refl _ _).drew ?_
            case hy11 => (intro W hSw; (try dsimp only at hSw); go_simp; try with_reducible rfl)
            try simp only [Act.put, List.setIfInBounds_toArray, List.set_cons_zero, List.set_cons_succ]
            refine Gz.take (i := 12) (oi := { dst := some 80, op := Op.move (Operand.tmp 0), type := 24, pos := _, after := _, guard := some (7, false) }) (v := ?_) rfl (by kernel_rfl) (by kernel_rfl) (by kernel_rfl) (by kernel_rfl) (fun _ _ _ h => h) (Or.inl ⟨by rfl, ?hy12⟩) (Kept.refl _ _).drew ?_
            case hy12 => (intro W hSw; (try dsimp only at hSw); go_simp; try with_reducible rfl)
            try simp only [Act.put, List.setIfInBounds_toArray, List.set_cons_zero, List.set_cons_succ]
            refine Gz.take (i := 13) (oi := { dst := some 81, op := Op.move (Operand.tmp 8), type := 3, pos := _, after := _, guard := some (7, false) }) (v := ?_) rfl (by kernel_rfl) (by kernel_rfl) (by kernel_rfl) (by kernel_rfl) (fun _ _ _ h => h) (Or.inl ⟨by rfl, ?hy13⟩) (Kept.refl _ _).drew ?_
            case hy13 => (intro W hSw; (try dsimp only at hSw); go_simp; try with_reducible rfl)
            try simp only [Act.put, List.setIfInBounds_toArray, List.set_cons_zero, List.set_cons_succ]
            refine Gz.take (i := 14) (oi := { dst := some 82, op := Op.indexAddr 24 (Operand.tmp 80) (Operand.tmp 81), type := 0, pos := _, after := _, guard := some (7, false) }) (v := ?_) rfl (by kernel_rfl) (by kernel_rfl) (by kernel_rfl) (by kernel_rfl) (fun _ _ _ h => h) (Or.inl ⟨by rfl, ?hy14⟩) (Kept.refl _ _).drew ?_
            case hy14 => (intro W hSw; (try dsimp only at hSw); go_simp; try with_reducible rfl)
            try simp only [Act.put, List.setIfInBounds_toArray, List.set_cons_zero, List.set_cons_succ]
            refine Gz.take (i := 15) (oi := { dst := some 83, op := Op.load 9 (Operand.tmp 82), type := 9, pos := _, after := _, guard := some (7, false) }) (v := ?_) rfl (by kernel_rfl) (by kernel_rfl) (by kernel_rfl) (by kernel_rfl) (fun _ _ _ h => h) (Or.inl ⟨by rfl, ?hy15⟩) (Kept.refl _ _).drew ?_
            case hy15 => (intro W hSw; (try dsimp only at hSw); go_simp; try with_reducible rfl)
            try simp only [Act.put, List.setIfInBounds_toArray, List.set_cons_zero, List.set_cons_succ]
            refine Gz.take (i := 16) (oi := { dst := some 84, op := Op.binOp BinOp.eql 9 (Operand.tmp 79) (Operand.tmp 83) 9, type := 4, pos := _, after := _, guard := some (7, false) }) (v := ?_) rfl (by kernel_rfl) (by kernel_rfl) (by kernel_rfl) (by kernel_rfl) (fun _ _ _ h => h) (Or.inl ⟨by rfl, ?hy16⟩) (Kept.refl _ _).drew ?_
            case hy16 => (intro W hSw; (try dsimp only at hSw); go_simp; try with_reducible rfl)
            try simp only [Act.put, List.setIfInBounds_toArray, List.set_cons_zero, List.set_cons_succ]
            refine Gz.take (i := 17) (oi := { dst := some 85, op := Op.move (Operand.tmp 84), type := 4, pos := _, after := _, guard := some (7, false) }) (v := ?_) rfl (by kernel_rfl) (by kernel_rfl) (by kernel_rfl) (by kernel_rfl) (fun _ _ _ h => h) (Or.inl ⟨by rfl, ?hy17⟩) (Kept.refl _ _).drew ?_
            case hy17 => (intro W hSw; (try dsimp only at hSw); go_simp; try with_reducible rfl)
            try simp only [Act.put, List.setIfInBounds_toArray, List.set_cons_zero, List.set_cons_succ]
            refine Gz.take (i := 18) (oi := { dst := some 86, op := Op.move (Operand.tmp 12), type := 4, pos := _, after := _, guard := some (17, true) }) (v := ?_) rfl (by kernel_rfl) (by kernel_rfl) (by kernel_rfl) (by kernel_rfl) (fun _ _ _ h => h) (Or.inl ⟨by rfl, ?hy18⟩) (Kept.refl _ _).drew ?_
            case hy18 => (intro W hSw; (try dsimp only at hSw); go_simp; try with_reducible rfl)
            try simp only [Act.put, List.setIfInBounds_toArray, List.set_cons_zero, List.set_cons_succ]
            refine Gz.take (i := 19) (oi := { dst := some 87, op := Op.unOp UnOp.not 4 (Operand.tmp 86), type := 4, pos := _, after := _, guard := some (17, true) }) (v := ?_) rfl (by kernel_rfl) (by kernel_rfl) (by kernel_rfl) (by kernel_rfl) (fun _ _ _ h => h) (Or.inl ⟨by rfl, ?hy19⟩) (Kept.refl _ _).drew ?_
            case hy19 => (intro W hSw; (try dsimp only at hSw); go_simp; try with_reducible rfl)
            try simp only [Act.put, List.setIfInBounds_toArray, List.set_cons_zero, List.set_cons_succ]
            refine Gz.take (i := 20) (oi := { dst := some 88, op := Op.pick (Operand.tmp 85) (Operand.tmp 87) (Operand.const (Value.bool false)), type := 4, pos := _, after := _, guard := some (7, false) }) (v := ?_) rfl (by kernel_rfl) (by kernel_rfl) (by kernel_rfl) (by kernel_rfl) (fun _ _ _ h => h) (Or.inl ⟨by rfl, ?hy20⟩) (Kept.refl _ _).drew ?_
            case hy20 => (intro W hSw; (try dsimp only at hSw); go_simp; try with_reducible rfl)
            try simp only [Act.put, List.setIfInBounds_toArray, List.set_cons_zero, List.set_cons_succ]
            refine Gz.take (i := 21) (oi := { dst := some 89, op := Op.pick (Operand.tmp 75) (Operand.const (Value.bool true)) (Operand.tmp 88), type := 4, pos := _, after := _, guard := none }) (v := ?_) rfl (by kernel_rfl) (by kernel_rfl) (by kernel_rfl) (by kernel_rfl) (fun _ _ _ h => h) (Or.inl ⟨by rfl, ?hy21⟩) (Kept.refl _ _).drew ?_
            case hy21 => (intro W hSw; (try dsimp only at hSw); go_simp; try with_reducible rfl)
            try simp only [Act.put, List.setIfInBounds_toArray, List.set_cons_zero, List.set_cons_succ]
            refine Gz.done (by kernel_rfl) ?_ _
            go_wp2_with fail
            obtain ⟨w9, hw9⟩ : ∃ x, x = w8.drew := ⟨_, rfl⟩
            rw [← hw9]
            have K9 : Hid (Kept (fun _ => True) w5' w9) := by rw [hw9]; exact K7.out.drew
            have ck9 : ∀ W, Kept (fun _ => True) w9 W → W.cell? ⟨b1, o1 + k, none⟩ = some (.string ⟨M.toArray⟩) := fun W hW => ck W (((Kept.refl _ _).drew).trans (by rw [hw9] at hW; exact hW))
            have cm9 : ∀ W, Kept (fun _ => True) w9 W → W.cell? ⟨gm, k, none⟩ = some (.string ⟨M.toArray⟩) := fun W hW => cm W (((Kept.refl _ _).drew).trans (by rw [hw9] at hW; exact hW))
            clear ck cm hw9
            refine Gz.begin (fun W => Kept (fun _ => True) w9 W) (fun _ => false) (by kernel_rfl) ?_
            refine Gz.take (i := 0) (oi := { dst := some 90, op := Op.move (Operand.tmp 11), type := 3, pos := _, after := _, guard := none }) (v := ?_) rfl (by kernel_rfl) (by kernel_rfl) (by kernel_rfl) (by kernel_rfl) (fun _ _ _ h => h) (Or.inl ⟨by rfl, ?hy0⟩) (Kept.refl _ _).drew ?_
            case hy0 => (intro W hSw; (try dsimp only at hSw); go_simp; try with_reducible rfl)
            try simp only [Act.put, List.setIfInBounds_toArray, List.set_cons_zero, List.set_cons_succ]
            refine Gz.take (i := 1) (oi := { dst := some 91, op := Op.move (Operand.tmp 8), type := 3, pos := _, after := _, guard := none }) (v := ?_) rfl (by kernel_rfl) (by kernel_rfl) (by kernel_rfl) (by kernel_rfl) (fun _ _ _ h => h) (Or.inl ⟨by rfl, ?hy1⟩) (Kept.refl _ _).drew ?_
            case hy1 => (intro W hSw; (try dsimp only at hSw); go_simp; try with_reducible rfl)
            try simp only [Act.put, List.setIfInBounds_toArray, List.set_cons_zero, List.set_cons_succ]
            refine Gz.take (i := 2) (oi := { dst := some 92, op := Op.binOp BinOp.geq 3 (Operand.tmp 90) (Operand.tmp 91) 3, type := 4, pos := _, after := _, guard := none }) (v := ?_) rfl (by kernel_rfl) (by kernel_rfl) (by kernel_rfl) (by kernel_rfl) (fun _ _ _ h => h) (Or.inl ⟨by rfl, ?hy2⟩) (Kept.refl _ _).drew ?_
            case hy2 => (intro W hSw; (try dsimp only at hSw); go_simp; try with_reducible rfl)
            try simp only [Act.put, List.setIfInBounds_toArray, List.set_cons_zero, List.set_cons_succ]
            refine Gz.take (i := 3) (oi := { dst := some 93, op := Op.move (Operand.tmp 92), type := 4, pos := _, after := _, guard := none }) (v := ?_) rfl (by kernel_rfl) (by kernel_rfl) (by kernel_rfl) (by kernel_rfl) (fun _ _ _ h => h) (Or.inl ⟨by rfl, ?hy3⟩) (Kept.refl _ _).drew ?_
            case hy3 => (intro W hSw; (try dsimp only at hSw); go_simp; try with_reducible rfl)
            try simp only [Act.put, List.setIfInBounds_toArray, List.set_cons_zero, List.set_cons_succ]
            refine Gz.take (i := 4) (oi := { dst := some 94, op := Op.move (Operand.tmp 7), type := 24, pos := _, after := _, guard := some (3, true) }) (v := undef) rfl (by kernel_rfl) (by kernel_rfl) (by kernel_rfl) (by kernel_rfl) (fun _ _ _ h => h) (Or.inr ⟨by rfl, rfl⟩) (Kept.refl _ _).drew ?_
            try simp only [Act.put, List.setIfInBounds_toArray, List.set_cons_zero, List.set_cons_succ]
            refine Gz.take (i := 5) (oi := { dst := some 95, op := Op.move (Operand.tmp 8), type := 3, pos := _, after := _, guard := some (3, true) }) (v := undef) rfl (by kernel_rfl) (by kernel_rfl) (by kernel_rfl) (by kernel_rfl) (fun _ _ _ h => h) (Or.inr ⟨by rfl, rfl⟩) (Kept.refl _ _).drew ?_
            try simp only [Act.put, List.setIfInBounds_toArray, List.set_cons_zero, List.set_cons_succ]
            refine Gz.take (i := 6) (oi := { dst := some 96, op := Op.indexAddr 24 (Operand.tmp 94) (Operand.tmp 95), type := 0, pos := _, after := _, guard := some (3, true) }) (v := undef) rfl (by kernel_rfl) (by kernel_rfl) (by kernel_rfl) (by kernel_rfl) (fun _ _ _ h => h) (Or.inr ⟨by rfl, rfl⟩) (Kept.refl _ _).drew ?_
            try simp only [Act.put, List.setIfInBounds_toArray, List.set_cons_zero, List.set_cons_succ]
            refine Gz.take (i := 7) (oi := { dst := some 97, op := Op.load 9 (Operand.tmp 96), type := 9, pos := _, after := _, guard := some (3, true) }) (v := undef) rfl (by kernel_rfl) (by kernel_rfl) (by kernel_rfl) (by kernel_rfl) (fun _ _ _ h => h) (Or.inr ⟨by rfl, rfl⟩) (Kept.refl _ _).drew ?_
            try simp only [Act.put, List.setIfInBounds_toArray, List.set_cons_zero, List.set_cons_succ]
            refine Gz.take (i := 8) (oi := { dst := some 98, op := Op.move (Operand.tmp 0), type := 24, pos := _, after := _, guard := some (3, true) }) (v := undef) rfl (by kernel_rfl) (by kernel_rfl) (by kernel_rfl) (by kernel_rfl) (fun _ _ _ h => h) (Or.inr ⟨by rfl, rfl⟩) (Kept.refl _ _).drew ?_
            try simp only [Act.put, List.setIfInBounds_toArray, List.set_cons_zero, List.set_cons_succ]
            refine Gz.take (i := 9) (oi := { dst := some 99, op := Op.move (Operand.tmp 8), type := 3, pos := _, after := _, guard := some (3, true) }) (v := undef) rfl (by kernel_rfl) (by kernel_rfl) (by kernel_rfl) (by kernel_rfl) (fun _ _ _ h => h) (Or.inr ⟨by rfl, rfl⟩) (Kept.refl _ _).drew ?_
            try simp only [Act.put, List.setIfInBounds_toArray, List.set_cons_zero, List.set_cons_succ]
            refine Gz.take (i := 10) (oi := { dst := some 100, op := Op.indexAddr 24 (Operand.tmp 98) (Operand.tmp 99), type := 0, pos := _, after := _, guard := some (3, true) }) (v := undef) rfl (by kernel_rfl) (by kernel_rfl) (by kernel_rfl) (by kernel_rfl) (fun _ _ _ h => h) (Or.inr ⟨by rfl, rfl⟩) (Kept.refl _ _).drew ?_
            try simp only [Act.put, List.setIfInBounds_toArray, List.set_cons_zero, List.set_cons_succ]
            refine Gz.take (i := 11) (oi := { dst := some 101, op := Op.load 9 (Operand.tmp 100), type := 9, pos := _, after := _, guard := some (3, true) }) (v := undef) rfl (by kernel_rfl) (by kernel_rfl) (by kernel_rfl) (by kernel_rfl) (fun _ _ _ h => h) (Or.inr ⟨by rfl, rfl⟩) (Kept.refl _ _).drew ?_
            try simp only [Act.put, List.setIfInBounds_toArray, List.set_cons_zero, List.set_cons_succ]
            refine Gz.take (i := 12) (oi := { dst := some 102, op := Op.binOp BinOp.neq 9 (Operand.tmp 97) (Operand.tmp 101) 9, type := 4, pos := _, after := _, guard := some (3, true) }) (v := undef) rfl (by kernel_rfl) (by kernel_rfl) (by kernel_rfl) (by kernel_rfl) (fun _ _ _ h => h) (Or.inr ⟨by rfl, rfl⟩) (Kept.refl _ _).drew ?_
            try simp only [Act.put, List.setIfInBounds_toArray, List.set_cons_zero, List.set_cons_succ]
            refine Gz.take (i := 13) (oi := { dst := some 103, op := Op.pick (Operand.tmp 93) (Operand.tmp 102) (Operand.const (Value.bool false)), type := 4, pos := _, after := _, guard := none }) (v := ?_) rfl (by kernel_rfl) (by kernel_rfl) (by kernel_rfl) (by kernel_rfl) (fun _ _ _ h => h) (Or.inl ⟨by rfl, ?hy13⟩) (Kept.refl _ _).drew ?_
            case hy13 => (intro W hSw; (try dsimp only at hSw); go_simp; try with_reducible rfl)
            try simp only [Act.put, List.setIfInBounds_toArray, List.set_cons_zero, List.set_cons_succ]
            refine Gz.take (i := 14) (oi := { dst := some 104, op := Op.move (Operand.tmp 103), type := 4, pos := _, after := _, guard := none }) (v := ?_) rfl (by kernel_rfl) (by kernel_rfl) (by kernel_rfl) (by kernel_rfl) (fun _ _ _ h => h) (Or.inl ⟨by rfl, ?hy14⟩) (Kept.refl _ _).drew ?_
            case hy14 => (intro W hSw; (try dsimp only at hSw); go_simp; try with_reducible rfl)
            try simp only [Act.put, List.setIfInBounds_toArray, List.set_cons_zero, List.set_cons_succ]
            refine Gz.take (i := 15) (oi := { dst := some 105, op := Op.move (Operand.tmp 12), type := 4, pos := _, after := _, guard := some (14, true) }) (v := undef) rfl (by kernel_rfl) (by kernel_rfl) (by kernel_rfl) (by kernel_rfl) (fun _ _ _ h => h) (Or.inr ⟨by rfl, rfl⟩) (Kept.refl _ _).drew ?_
            try simp only [Act.put, List.setIfInBounds_toArray, List.set_cons_zero, List.set_cons_succ]
            refine Gz.take (i := 16) (oi := { dst := some 106, op := Op.pick (Operand.tmp 104) (Operand.tmp 105) (Operand.const (Value.bool false)), type := 4, pos := _, after := _, guard := none }) (v := ?_) rfl (by kernel_rfl) (by kernel_rfl) (by kernel_rfl) (by kernel_rfl) (fun _ _ _ h => h) (Or.inl ⟨by rfl, ?hy16⟩) (Kept.refl _ _).drew ?_
            case hy16 => (intro W hSw; (try dsimp only at hSw); go_simp; try with_reducible rfl)
            try simp only [Act.put, List.setIfInBounds_toArray, List.set_cons_zero, List.set_cons_succ]
            refine Gz.done (by kernel_rfl) ?_ _
            go_wp2_with fail
            go_roundw
            case rel => exact ⟨i + 1, by omega, by go_num, K9.out.drew⟩
            case measure => simp [intOf]; omega
        · have hne : (M == tk) = false := beq_eq_false_iff_ne.2 hq
          clear hq HS1 HS2
          as_aux_lemma =>
            obtain ⟨w8, hw8⟩ : ∃ x, x = w7 := ⟨_, rfl⟩
            rw [← hw8] at K7 ⊢
            have ck : ∀ W, Kept (fun _ => True) w8 W → W.cell? ⟨b1, o1 + k, none⟩ = some (.string ⟨tk.toArray⟩) := fun W hW => ckk W (by rw [hw8] at hW; exact hW)
            have cm : ∀ W, Kept (fun _ => True) w8 W → W.cell? ⟨gm, k, none⟩ = some (.string ⟨M.toArray⟩) := fun W hW => cmm W (by rw [hw8] at hW; exact hW)
            clear ckk cmm hw8
            refine Gz.begin (fun W => Kept (fun _ => True) w8 W) (fun _ => false) (by kernel_rfl) ?_
            refine Gz.take (i := 0) (oi := { dst := some 68, op := Op.move (Operand.tmp 11), type := 3, pos := _, after := _, guard := none }) (v := ?_) rfl (by kernel_rfl) (by kernel_rfl) (by kernel_rfl) (by kernel_rfl) (fun _ _ _ h => h) (Or.inl ⟨by rfl, ?hy0⟩) (Kept.refl _ _).drew ?_
            case hy0 => (intro W hSw; (try dsimp only at hSw); go_simp; try with_reducible rfl)
            try simp only [Act.put, List.setIfInBounds_toArray, List.set_cons_zero, List.set_cons_succ]
            refine Gz.take (i := 1) (oi := { dst := some 69, op := Op.move (Operand.tmp 8), type := 3, pos := _, after := _, guard := none }) (v := ?_) rfl (by kernel_rfl) (by kernel_rfl) (by kernel_rfl) (by kernel_rfl) (fun _ _ _ h => h) (Or.inl ⟨by rfl, ?hy1⟩) (Kept.refl _ _).drew ?_
            case hy1 => (intro W hSw; (try dsimp only at hSw); go_simp; try with_reducible rfl)
            try simp only [Act.put, List.setIfInBounds_toArray, List.set_cons_zero, List.set_cons_succ]
            refine Gz.take (i := 2) (oi := { dst := some 70, op := Op.binOp BinOp.lss 3 (Operand.tmp 68) (Operand.tmp 69) 3, type := 4, pos := _, after := _, guard := none }) (v := ?_) rfl (by kernel_rfl) (by kernel_rfl) (by kernel_rfl) (by kernel_rfl) (fun _ _ _ h => h) (Or.inl ⟨by rfl, ?hy2⟩) (Kept.refl _ _).drew ?_
            case hy2 => (intro W hSw; (try dsimp only at hSw); go_simp; try with_reducible rfl)
            try simp only [Act.put, List.setIfInBounds_toArray, List.set_cons_zero, List.set_cons_succ]
            refine Gz.take (i := 3) (oi := { dst := some 71, op := Op.move (Operand.tmp 70), type := 4, pos := _, after := _, guard := none }) (v := ?_) rfl (by kernel_rfl) (by kernel_rfl) (by kernel_rfl) (by kernel_rfl) (fun _ _ _ h => h) (Or.inl ⟨by rfl, ?hy3⟩) (Kept.refl _ _).drew ?_
            case hy3 => (intro W hSw; (try dsimp only at hSw); go_simp; try with_reducible rfl)
            try simp only [Act.put, List.setIfInBounds_toArray, List.set_cons_zero, List.set_cons_succ]
            refine Gz.take (i := 4) (oi := { dst := some 72, op := Op.move (Operand.tmp 12), type := 4, pos := _, after := _, guard := some (3, true) }) (v := ?_) rfl (by kernel_rfl) (by kernel_rfl) (by kernel_rfl) (by kernel_rfl) (fun _ _ _ h => h) (Or.inl ⟨by rfl, ?hy4⟩) (Kept.refl _ _).drew ?_
            case hy4 => (intro W hSw; (try dsimp only at hSw); go_simp; try with_reducible rfl)
            try simp only [Act.put, List.setIfInBounds_toArray, List.set_cons_zero, List.set_cons_succ]
            refine Gz.take (i := 5) (oi := { dst := some 73, op := Op.unOp UnOp.not 4 (Operand.tmp 72), type := 4, pos := _, after := _, guard := some (3, true) }) (v := ?_) rfl (by kernel_rfl) (by kernel_rfl) (by kernel_rfl) (by kernel_rfl) (fun _ _ _ h => h) (Or.inl ⟨by rfl, ?hy5⟩) (Kept.refl _ _).drew ?_
            case hy5 => (intro W hSw; (try dsimp only at hSw); go_simp; try with_reducible rfl)
            try simp only [Act.put, List.setIfInBounds_toArray, List.set_cons_zero, List.set_cons_succ]
            refine Gz.take (i := 6) (oi := { dst := some 74, op := Op.pick (Operand.tmp 71) (Operand.tmp 73) (Operand.const (Value.bool false)), type := 4, pos := _, after := _, guard := none }) (v := ?_) rfl (by kernel_rfl) (by kernel_rfl) (by kernel_rfl) (by kernel_rfl) (fun _ _ _ h => h) (Or.inl ⟨by rfl, ?hy6⟩) (Kept.refl _ _).drew ?_
            case hy6 => (intro W hSw; (try dsimp only at hSw); go_simp; try with_reducible rfl)
            try simp only [Act.put, List.setIfInBounds_toArray, List.set_cons_zero, List.set_cons_succ]
            refine Gz.take (i := 7) (oi := { dst := some 75, op := Op.move (Operand.tmp 74), type := 4, pos := _, after := _, guard := none }) (v := ?_) rfl (by kernel_rfl) (by kernel_rfl) (by kernel_rfl) (by kernel_rfl) (fun _ _ _ h => h) (Or.inl ⟨by rfl, ?hy7⟩) (Kept.refl _ _).drew ?_
            case hy7 => (intro W hSw; (try dsimp only at hSw); go_simp; try with_reducible rfl)
            try simp only [Act.put, List.setIfInBounds_toArray, List.set_cons_zero, List.set_cons_succ]
            refine Gz.take (i := 8) (oi := { dst := some 76, op := Op.move (Operand.tmp 7), type := 24, pos := _, after := _, guard := some (7, false) }) (v := ?_) rfl (by kernel_rfl) (by kernel_rfl) (by kernel_rfl) (by kernel_rfl) (fun _ _ _ h => h) (Or.inl ⟨by rfl, ?hy8⟩) (Kept.refl _ _).drew ?_
            case hy8 => (intro W hSw; (try dsimp only at hSw); go_simp; try with_reducible rfl)
            try simp only [Act.put, List.setIfInBounds_toArray, List.set_cons_zero, List.set_cons_succ]
            refine Gz.take (i := 9) (oi := { dst := some 77, op := Op.move (Operand.tmp 8), type := 3, pos := _, after := _, guard := some (7, false) }) (v := ?_) rfl (by kernel_rfl) (by kernel_rfl) (by kernel_rfl) (by kernel_rfl) (fun _ _ _ h => h) (Or.inl ⟨by rfl, ?hy9⟩) (Kept.refl _ _).drew ?_
            case hy9 => (intro W hSw; (try dsimp only at hSw); go_simp; try with_reducible rfl)
            try simp only [Act.put, List.setIfInBounds_toArray, List.set_cons_zero, List.set_cons_succ]
            refine Gz.take (i := 10) (oi := { dst := some 78, op := Op.indexAddr 24 (Operand.tmp 76) (Operand.tmp 77), type := 0, pos := _, after := _, guard := some (7, false) }) (v := ?_) rfl (by kernel_rfl) (by kernel_rfl) (by kernel_rfl) (by kernel_rfl) (fun _ _ _ h => h) (Or.inl ⟨by rfl, ?hy10⟩) (Kept.refl _ _).drew ?_
            case hy10 => (intro W hSw; (try dsimp only at hSw); go_simp; try with_reducible rfl)
            try simp only [Act.put, List.setIfInBounds_toArray, List.set_cons_zero, List.set_cons_succ]
            refine Gz.take (i := 11) (oi := { dst := some 79, op := Op.load 9 (Operand.tmp 78), type := 9, pos := _, after := _, guard := some (7, false) }) (v := ?_) rfl (by kernel_rfl) (by kernel_rfl) (by kernel_rfl) (by kernel_rfl) (fun _ _ _ h => h) (Or.inl ⟨by rfl, ?hy11⟩) (Kept.refl _ _).drew ?_
            case hy11 => (intro W hSw; (try dsimp only at hSw); go_simp; try with_reducible rfl)
            try simp only [Act.put, List.setIfInBounds_toArray, List.set_cons_zero, List.set_cons_succ]
            refine Gz.take (i := 12) (oi := { dst := some 80, op := Op.move (Operand.tmp 0), type := 24, pos := _, after := _, guard := some (7, false) }) (v := ?_) rfl (by kernel_rfl) (by kernel_rfl) (by kernel_rfl) (by kernel_rfl) (fun _ _ _ h => h) (Or.inl ⟨by rfl, ?hy12⟩) (Kept.refl _ _).drew ?_
            case hy12 => (intro W hSw; (try dsimp only at hSw); go_simp; try with_reducible rfl)
            try simp only [Act.put, List.setIfInBounds_toArray, List.set_cons_zero, List.set_cons_succ]
            refine Gz.take (i := 13) (oi := { dst := some 81, op := Op.move (Operand.tmp 8), type := 3, pos := _, after := _, guard := some (7, false) }) (v := ?_) rfl (by kernel_rfl) (by kernel_rfl) (by kernel_rfl) (by kernel_rfl) (fun _ _ _ h => h) (Or.inl ⟨by rfl, ?hy13⟩) (Kept.refl _ _).drew ?_
            case hy13 => (intro W hSw; (try dsimp only at hSw); go_simp; try with_reducible rfl)
            try simp only [Act.put, List.setIfInBounds_toArray, List.set_cons_zero, List.set_cons_succ]
            refine Gz.take (i := 14) (oi := { dst := some 82, op := Op.indexAddr 24 (Operand.tmp 80) (Operand.tmp 81), type := 0, pos := _, after := _, guard := some (7, false) }) (v := ?_) rfl (by kernel_rfl) (by kernel_rfl) (by kernel_rfl) (by kernel_rfl) (fun _ _ _ h => h) (Or.inl ⟨by rfl, ?hy14⟩) (Kept.refl _ _).drew ?_
            case hy14 => (intro W hSw; (try dsimp only at hSw); go_simp; try with_reducible rfl)
            try simp only [Act.put, List.setIfInBounds_toArray, List.set_cons_zero, List.set_cons_succ]
            refine Gz.take (i := 15) (oi := { dst := some 83, op := Op.load 9 (Operand.tmp 82), type := 9, pos := _, after := _, guard := some (7, false) }) (v := ?_) rfl (by kernel_rfl) (by kernel_rfl) (by kernel_rfl) (by kernel_rfl) (fun _ _ _ h => h) (Or.inl ⟨by rfl, ?hy15⟩) (Kept.refl _ _).drew ?_
            case hy15 => (intro W hSw; (try dsimp only at hSw); go_simp; try with_reducible rfl)
            try simp only [Act.put, List.setIfInBounds_toArray, List.set_cons_zero, List.set_cons_succ]
            refine Gz.take (i := 16) (oi := { dst := some 84, op := Op.binOp BinOp.eql 9 (Operand.tmp 79) (Operand.tmp 83) 9, type := 4, pos := _, after := _, guard := some (7, false) }) (v := ?_) rfl (by kernel_rfl) (by kernel_rfl) (by kernel_rfl) (by kernel_rfl) (fun _ _ _ h => h) (Or.inl ⟨by rfl, ?hy16⟩) (Kept.refl _ _).drew ?_
            case hy16 => (intro W hSw; (try dsimp only at hSw); go_simp; try with_reducible rfl)
            try simp only [Act.put, List.setIfInBounds_toArray, List.set_cons_zero, List.set_cons_succ]
            refine Gz.take (i := 17) (oi := { dst := some 85, op := Op.move (Operand.tmp 84), type := 4, pos := _, after := _, guard := some (7, false) }) (v := ?_) rfl (by kernel_rfl) (by kernel_rfl) (by kernel_rfl) (by kernel_rfl) (fun _ _ _ h => h) (Or.inl ⟨by rfl, ?hy17⟩) (Kept.refl _ _).drew ?_
            case hy17 => (intro W hSw; (try dsimp only at hSw); go_simp; try with_reducible rfl)
            try simp only [Act.put, List.setIfInBounds_toArray, List.set_cons_zero, List.set_cons_succ]
            refine Gz.take (i := 18) (oi := { dst := some 86, op := Op.move (Operand.tmp 12), type := 4, pos := _, after := _, guard := some (17, true) }) (v := undef) rfl (by kernel_rfl) (by kernel_rfl) (by kernel_rfl) (by kernel_rfl) (fun _ _ _ h => h) (Or.inr ⟨by rfl, rfl⟩) (Kept.refl _ _).drew ?_
            try simp only [Act.put, List.setIfInBounds_toArray, List.set_cons_zero, List.set_cons_succ]
            refine Gz.take (i := 19) (oi := { dst := some 87, op := Op.unOp UnOp.not 4 (Operand.tmp 86), type := 4, pos := _, after := _, guard := some (17, true) }) (v := undef) rfl (by kernel_rfl) (by kernel_rfl) (by kernel_rfl) (by kernel_rfl) (fun _ _ _ h => h) (Or.inr ⟨by rfl, rfl⟩) (Kept.refl _ _).drew ?_
            try simp only [Act.put, List.setIfInBounds_toArray, List.set_cons_zero, List.set_cons_succ]
            refine Gz.take (i := 20) (oi := { dst := some 88, op := Op.pick (Operand.tmp 85) (Operand.tmp 87) (Operand.const (Value.bool false)), type := 4, pos := _, after := _, guard := some (7, false) }) (v := ?_) rfl (by kernel_rfl) (by kernel_rfl) (by kernel_rfl) (by kernel_rfl) (fun _ _ _ h => h) (Or.inl ⟨by rfl, ?hy20⟩) (Kept.refl _ _).drew ?_
            case hy20 => (intro W hSw; (try dsimp only at hSw); go_simp; try with_reducible rfl)
            try simp only [Act.put, List.setIfInBounds_toArray, List.set_cons_zero, List.set_cons_succ]
            refine Gz.take (i := 21) (oi := { dst := some 89, op := Op.pick (Operand.tmp 75) (Operand.const (Value.bool true)) (Operand.tmp 88), type := 4, pos := _, after := _, guard := none }) (v := ?_) rfl (by kernel_rfl) (by kernel_rfl) (by kernel_rfl) (by kernel_rfl) (fun _ _ _ h => h) (Or.inl ⟨by rfl, ?hy21⟩) (Kept.refl _ _).drew ?_
            case hy21 => (intro W hSw; (try dsimp only at hSw); go_simp; try with_reducible rfl)
            try simp only [Act.put, List.setIfInBounds_toArray, List.set_cons_zero, List.set_cons_succ]
            refine Gz.done (by kernel_rfl) ?_ _
            go_wp2_with fail
            obtain ⟨w9, hw9⟩ : ∃ x, x = w8.drew := ⟨_, rfl⟩
            rw [← hw9]
            have K9 : Hid (Kept (fun _ => True) w5' w9) := by rw [hw9]; exact K7.out.drew
            have ck9 : ∀ W, Kept (fun _ => True) w9 W → W.cell? ⟨b1, o1 + k, none⟩ = some (.string ⟨tk.toArray⟩) := fun W hW => ck W (((Kept.refl _ _).drew).trans (by rw [hw9] at hW; exact hW))
            have cm9 : ∀ W, Kept (fun _ => True) w9 W → W.cell? ⟨gm, k, none⟩ = some (.string ⟨M.toArray⟩) := fun W hW => cm W (((Kept.refl _ _).drew).trans (by rw [hw9] at hW; exact hW))
            clear ck cm hw9
            refine Gz.begin (fun W => Kept (fun _ => True) w9 W) (fun _ => false) (by kernel_rfl) ?_
            refine Gz.take (i := 0) (oi := { dst := some 90, op := Op.move (Operand.tmp 11), type := 3, pos := _, after := _, guard := none }) (v := ?_) rfl (by kernel_rfl) (by kernel_rfl) (by kernel_rfl) (by kernel_rfl) (fun _ _ _ h => h) (Or.inl ⟨by rfl, ?hy0⟩) (Kept.refl _ _).drew ?_
            case hy0 => (intro W hSw; (try dsimp only at hSw); go_simp; try with_reducible rfl)
            try simp only [Act.put, List.setIfInBounds_toArray, List.set_cons_zero, List.set_cons_succ]
            refine Gz.take (i := 1) (oi := { dst := some 91, op := Op.move (Operand.tmp 8), type := 3, pos := _, after := _, guard := none }) (v := ?_) rfl (by kernel_rfl) (by kernel_rfl) (by kernel_rfl) (by kernel_rfl) (fun _ _ _ h => h) (Or.inl ⟨by rfl, ?hy1⟩) (Kept.refl _ _).drew ?_
            case hy1 => (intro W hSw; (try dsimp only at hSw); go_simp; try with_reducible rfl)
            try simp only [Act.put, List.setIfInBounds_toArray, List.set_cons_zero, List.set_cons_succ]
            refine Gz.take (i := 2) (oi := { dst := some 92, op := Op.binOp BinOp.geq 3 (Operand.tmp 90) (Operand.tmp 91) 3, type := 4, pos := _, after := _, guard := none }) (v := ?_) rfl (by kernel_rfl) (by kernel_rfl) (by kernel_rfl) (by kernel_rfl) (fun _ _ _ h => h) (Or.inl ⟨by rfl, ?hy2⟩) (Kept.refl _ _).drew ?_
            case hy2 => (intro W hSw; (try dsimp only at hSw); go_simp; try with_reducible rfl)
            try simp only [Act.put, List.setIfInBounds_toArray, List.set_cons_zero, List.set_cons_succ]
            refine Gz.take (i := 3) (oi := { dst := some 93, op := Op.move (Operand.tmp 92), type := 4, pos := _, after := _, guard := none }) (v := ?_) rfl (by kernel_rfl) (by kernel_rfl) (by kernel_rfl) (by kernel_rfl) (fun _ _ _ h => h) (Or.inl ⟨by rfl, ?hy3⟩) (Kept.refl _ _).drew ?_
            case hy3 => (intro W hSw; (try dsimp only at hSw); go_simp; try with_reducible rfl)
            try simp only [Act.put, List.setIfInBounds_toArray, List.set_cons_zero, List.set_cons_succ]
            refine Gz.take (i := 4) (oi := { dst := some 94, op := Op.move (Operand.tmp 7), type := 24, pos := _, after := _, guard := some (3, true) }) (v := undef) rfl (by kernel_rfl) (by kernel_rfl) (by kernel_rfl) (by kernel_rfl) (fun _ _ _ h => h) (Or.inr ⟨by rfl, rfl⟩) (Kept.refl _ _).drew ?_
            try simp only [Act.put, List.setIfInBounds_toArray, List.set_cons_zero, List.set_cons_succ]
            refine Gz.take (i := 5) (oi := { dst := some 95, op := Op.move (Operand.tmp 8), type := 3, pos := _, after := _, guard := some (3, true) }) (v := undef) rfl (by kernel_rfl) (by kernel_rfl) (by kernel_rfl) (by kernel_rfl) (fun _ _ _ h => h) (Or.inr ⟨by rfl, rfl⟩) (Kept.refl _ _).drew ?_
            try simp only [Act.put, List.setIfInBounds_toArray, List.set_cons_zero, List.set_cons_succ]
            refine Gz.take (i := 6) (oi := { dst := some 96, op := Op.indexAddr 24 (Operand.tmp 94) (Operand.tmp 95), type := 0, pos := _, after := _, guard := some (3, true) }) (v := undef) rfl (by kernel_rfl) (by kernel_rfl) (by kernel_rfl) (by kernel_rfl) (fun _ _ _ h => h) (Or.inr ⟨by rfl, rfl⟩) (Kept.refl _ _).drew ?_
            try simp only [Act.put, List.setIfInBounds_toArray, List.set_cons_zero, List.set_cons_succ]
            refine Gz.take (i := 7) (oi := { dst := some 97, op := Op.load 9 (Operand.tmp 96), type := 9, pos := _, after := _, guard := some (3, true) }) (v := undef) rfl (by kernel_rfl) (by kernel_rfl) (by kernel_rfl) (by kernel_rfl) (fun _ _ _ h => h) (Or.inr ⟨by rfl, rfl⟩) (Kept.refl _ _).drew ?_
            try simp only [Act.put, List.setIfInBounds_toArray, List.set_cons_zero, List.set_cons_succ]
            refine Gz.take (i := 8) (oi := { dst := some 98, op := Op.move (Operand.tmp 0), type := 24, pos := _, after := _, guard := some (3, true) }) (v := undef) rfl (by kernel_rfl) (by kernel_rfl) (by kernel_rfl) (by kernel_rfl) (fun _ _ _ h => h) (Or.inr ⟨by rfl, rfl⟩) (Kept.refl _ _).drew ?_
            try simp only [Act.put, List.setIfInBounds_toArray, List.set_cons_zero, List.set_cons_succ]
            refine Gz.take (i := 9) (oi := { dst := some 99, op := Op.move (Operand.tmp 8), type := 3, pos := _, after := _, guard := some (3, true) }) (v := undef) rfl (by kernel_rfl) (by kernel_rfl) (by kernel_rfl) (by kernel_rfl) (fun _ _ _ h => h) (Or.inr ⟨by rfl, rfl⟩) (Kept.refl _ _).drew ?_
            try simp only [Act.put, List.setIfInBounds_toArray, List.set_cons_zero, List.set_cons_succ]
            refine Gz.take (i := 10) (oi := { dst := some 100, op := Op.indexAddr 24 (Operand.tmp 98) (Operand.tmp 99), type := 0, pos := _, after := _, guard := some (3, true) }) (v := undef) rfl (by kernel_rfl) (by kernel_rfl) (by kernel_rfl) (by kernel_rfl) (fun _ _ _ h => h) (Or.inr ⟨by rfl, rfl⟩) (Kept.refl _ _).drew ?_
            try simp only [Act.put, List.setIfInBounds_toArray, List.set_cons_zero, List.set_cons_succ]
            refine Gz.take (i := 11) (oi := { dst := some 101, op := Op.load 9 (Operand.tmp 100), type := 9, pos := _, after := _, guard := some (3, true) }) (v := undef) rfl (by kernel_rfl) (by kernel_rfl) (by kernel_rfl) (by kernel_rfl) (fun _ _ _ h => h) (Or.inr ⟨by rfl, rfl⟩) (Kept.refl _ _).drew ?_
            try simp only [Act.put, List.setIfInBounds_toArray, List.set_cons_zero, List.set_cons_succ]
            refine Gz.take (i := 12) (oi := { dst := some 102, op := Op.binOp BinOp.neq 9 (Operand.tmp 97) (Operand.tmp 101) 9, type := 4, pos := _, after := _, guard := some (3, true) }) (v := undef) rfl (by kernel_rfl) (by kernel_rfl) (by kernel_rfl) (by kernel_rfl) (fun _ _ _ h => h) (Or.inr ⟨by rfl, rfl⟩) (Kept.refl _ _).drew ?_
            try simp only [Act.put, List.setIfInBounds_toArray, List.set_cons_zero, List.set_cons_succ]
            refine Gz.take (i := 13) (oi := { dst := some 103, op := Op.pick (Operand.tmp 93) (Operand.tmp 102) (Operand.const (Value.bool false)), type := 4, pos := _, after := _, guard := none }) (v := ?_) rfl (by kernel_rfl) (by kernel_rfl) (by kernel_rfl) (by kernel_rfl) (fun _ _ _ h => h) (Or.inl ⟨by rfl, ?hy13⟩) (Kept.refl _ _).drew ?_
            case hy13 => (intro W hSw; (try dsimp only at hSw); go_simp; try with_reducible rfl)
            try simp only [Act.put, List.setIfInBounds_toArray, List.set_cons_zero, List.set_cons_succ]
            refine Gz.take (i := 14) (oi := { dst := some 104, op := Op.move (Operand.tmp 103), type := 4, pos := _, after := _, guard := none }) (v := ?_) rfl (by kernel_rfl) (by kernel_rfl) (by kernel_rfl) (by kernel_rfl) (fun _ _ _ h => h) (Or.inl ⟨by rfl, ?hy14⟩) (Kept.refl _ _).drew ?_
            case hy14 => (intro W hSw; (try dsimp only at hSw); go_simp; try with_reducible rfl)
            try simp only [Act.put, List.setIfInBounds_toArray, List.set_cons_zero, List.set_cons_succ]
            refine Gz.take (i := 15) (oi := { dst := some 105, op := Op.move (Operand.tmp 12), type := 4, pos := _, after := _, guard := some (14, true) }) (v := undef) rfl (by kernel_rfl) (by kernel_rfl) (by kernel_rfl) (by kernel_rfl) (fun _ _ _ h => h) (Or.inr ⟨by rfl, rfl⟩) (Kept.refl _ _).drew ?_
            try simp only [Act.put, List.setIfInBounds_toArray, List.set_cons_zero, List.set_cons_succ]
            refine Gz.take (i := 16) (oi := { dst := some 106, op := Op.pick (Operand.tmp 104) (Operand.tmp 105) (Operand.const (Value.bool false)), type := 4, pos := _, after := _, guard := none }) (v := ?_) rfl (by kernel_rfl) (by kernel_rfl) (by kernel_rfl) (by kernel_rfl) (fun _ _ _ h => h) (Or.inl ⟨by rfl, ?hy16⟩) (Kept.refl _ _).drew ?_
            case hy16 => (intro W hSw; (try dsimp only at hSw); go_simp; try with_reducible rfl)
            try simp only [Act.put, List.setIfInBounds_toArray, List.set_cons_zero, List.set_cons_succ]
            refine Gz.done (by kernel_rfl) ?_ _
            go_wp2_with fail
            go_roundw
            case rel => exact ⟨i + 1, by omega, by go_num, K9.out.drew⟩
            case measure => simp [intOf]; omega
      · have i2 : ¬ (i : Int) < (k : Int) := by omega
        have i3 : (k : Int) ≤ (i : Int) := by omega
        have i4 : k ≤ i := by omega
        by_cases hq : M = tk
        · obtain rfl : sm = true := HS2.out hq
          subst hq
          clear HS1 HS2
          as_aux_lemma =>
            obtain ⟨w8, hw8⟩ : ∃ x, x = w7 := ⟨_, rfl⟩
            rw [← hw8] at K7 ⊢
            have ck : ∀ W, Kept (fun _ => True) w8 W → W.cell? ⟨b1, o1 + k, none⟩ = some (.string ⟨M.toArray⟩) := fun W hW => ckk W (by rw [hw8] at hW; exact hW)
            have cm : ∀ W, Kept (fun _ => True) w8 W → W.cell? ⟨gm, k, none⟩ = some (.string ⟨M.toArray⟩) := fun W hW => cmm W (by rw [hw8] at hW; exact hW)
            clear ckk cmm hw8
            refine Gz.begin (fun W => Kept (fun _ => True) w8 W) (fun _ => false) (by kernel_rfl) ?_
            refine Gz.take (i := 0) (oi := { dst := some 68, op := Op.move (Operand.tmp 11), type := 3, pos := _, after := _, guard := none }) (v := ?_) rfl (by kernel_rfl) (by kernel_rfl) (by kernel_rfl) (by kernel_rfl) (fun _ _ _ h => h) (Or.inl ⟨by rfl, ?hy0⟩) (Kept.refl _ _).drew ?_
            case hy0 => (intro W hSw; (try dsimp only at hSw); go_simp; try with_reducible rfl)
            try simp only [Act.put, List.setIfInBounds_toArray, List.set_cons_zero, List.set_cons_succ]
            refine Gz.take (i := 1) (oi := { dst := some 69, op := Op.move (Operand.tmp 8), type := 3, pos := _, after := _, guard := none }) (v := ?_) rfl (by kernel_rfl) (by kernel_rfl) (by kernel_rfl) (by kernel_rfl) (fun _ _ _ h => h) (Or.inl ⟨by rfl, ?hy1⟩) (Kept.refl _ _).drew ?_
            case hy1 => (intro W hSw; (try dsimp only at hSw); go_simp; try with_reducible rfl)
            try simp only [Act.put, List.setIfInBounds_toArray, List.set_cons_zero, List.set_cons_succ]
            refine Gz.take (i := 2) (oi := { dst := some 70, op := Op.binOp BinOp.lss 3 (Operand.tmp 68) (Operand.tmp 69) 3, type := 4, pos := _, after := _, guard := none }) (v := ?_) rfl (by kernel_rfl) (by kernel_rfl) (by kernel_rfl) (by kernel_rfl) (fun _ _ _ h => h) (Or.inl ⟨by rfl, ?hy2⟩) (Kept.refl _ _).drew ?_
            case hy2 => (intro W hSw; (try dsimp only at hSw); go_simp; try with_reducible rfl)
            try simp only [Act.put, List.setIfInBounds_toArray, List.set_cons_zero, List.set_cons_succ]
            refine Gz.take (i := 3) (oi := { dst := some 71, op := Op.move (Operand.tmp 70), type := 4, pos := _, after := _, guard := none }) (v := ?_) rfl (by kernel_rfl) (by kernel_rfl) (by kernel_rfl) (by kernel_rfl) (fun _ _ _ h => h) (Or.inl ⟨by rfl, ?hy3⟩) (Kept.refl _ _).drew ?_
            case hy3 => (intro W hSw; (try dsimp only at hSw); go_simp; try with_reducible rfl)
            try simp only [Act.put, List.setIfInBounds_toArray, List.set_cons_zero, List.set_cons_succ]
            refine Gz.take (i := 4) (oi := { dst := some 72, op := Op.move (Operand.tmp 12), type := 4, pos := _, after := _, guard := some (3, true) }) (v := undef) rfl (by kernel_rfl) (by kernel_rfl) (by kernel_rfl) (by kernel_rfl) (fun _ _ _ h => h) (Or.inr ⟨by rfl, rfl⟩) (Kept.refl _ _).drew ?_
            try simp only [Act.put, List.setIfInBounds_toArray, List.set_cons_zero, List.set_cons_succ]
            refine Gz.take (i := 5) (oi := { dst := some 73, op := Op.unOp UnOp.not 4 (Operand.tmp 72), type := 4, pos := _, after := _, guard := some (3, true) }) (v := undef) rfl (by kernel_rfl) (by kernel_rfl) (by kernel_rfl) (by kernel_rfl) (fun _ _ _ h => h) (Or.inr ⟨by rfl, rfl⟩) (Kept.refl _ _).drew ?_
            try simp only [Act.put, List.setIfInBounds_toArray, List.set_cons_zero, List.set_cons_succ]
            refine Gz.take (i := 6) (oi := { dst := some 74, op := Op.pick (Operand.tmp 71) (Operand.tmp 73) (Operand.const (Value.bool false)), type := 4, pos := _, after := _, guard := none }) (v := ?_) rfl (by kernel_rfl) (by kernel_rfl) (by kernel_rfl) (by kernel_rfl) (fun _ _ _ h => h) (Or.inl ⟨by rfl, ?hy6⟩) (Kept.refl _ _).drew ?_
            case hy6 => (intro W hSw; (try dsimp only at hSw); go_simp; try with_reducible rfl)
            try simp only [Act.put, List.setIfInBounds_toArray, List.set_cons_zero, List.set_cons_succ]
            refine Gz.take (i := 7) (oi := { dst := some 75, op := Op.move (Operand.tmp 74), type := 4, pos := _, after := _, guard := none }) (v := ?_) rfl (by kernel_rfl) (by kernel_rfl) (by kernel_rfl) (by kernel_rfl) (fun _ _ _ h => h) (Or.inl ⟨by rfl, ?hy7⟩) (Kept.refl _ _).drew ?_
            case hy7 => (intro W hSw; (try dsimp only at hSw); go_simp; try with_reducible rfl)
            try simp only [Act.put, List.setIfInBounds_toArray, List.set_cons_zero, List.set_cons_succ]
            refine Gz.take (i := 8) (oi := { dst := some 76, op := Op.move (Operand.tmp 7), type := 24, pos := _, after := _, guard := some (7, false) }) (v := ?_) rfl (by kernel_rfl) (by kernel_rfl) (by kernel_rfl) (by kernel_rfl) (fun _ _ _ h => h) (Or.inl ⟨by rfl, ?hy8⟩) (Kept.refl _ _).drew ?_
            case hy8 => (intro W hSw; (try dsimp only at hSw); go_simp; try with_reducible rfl)
            try simp only [Act.put, List.setIfInBounds_toArray, List.set_cons_zero, List.set_cons_succ]
            refine Gz.take (i := 9) (oi := { dst := some 77, op := Op.move (Operand.tmp 8), type := 3, pos := _, after := _, guard := some (7, false) }) (v := ?_) rfl (by kernel_rfl) (by kernel_rfl) (by kernel_rfl) (by kernel_rfl) (fun _ _ _ h => h) (Or.inl ⟨by rfl, ?hy9⟩) (Kept.refl _ _).drew ?_
            case hy9 => (intro W hSw; (try dsimp only at hSw); go_simp; try with_reducible rfl)
            try simp only [Act.put, List.setIfInBounds_toArray, List.set_cons_zero, List.set_cons_succ]
            refine Gz.take (i := 10) (oi := { dst := some 78, op := Op.indexAddr 24 (Operand.tmp 76) (Operand.tmp 77), type := 0, pos := _, after := _, guard := some (7, false) }) (v := ?_) rfl (by kernel_rfl) (by kernel_rfl) (by kernel_rfl) (by kernel_rfl) (fun _ _ _ h => h) (Or.inl ⟨by rfl, ?hy10⟩) (Kept.refl _ _).drew ?_
            case hy10 => (intro W hSw; (try dsimp only at hSw); go_simp; try with_reducible rfl)
            try simp only [Act.put, List.setIfInBounds_toArray, List.set_cons_zero, List.set_cons_succ]
            refine Gz.take (i := 11) (oi := { dst := some 79, op := Op.load 9 (Operand.tmp 78), type := 9, pos := _, after := _, guard := some (7, false) }) (v := ?_) rfl (by kernel_rfl) (by kernel_rfl) (by kernel_rfl) (by kernel_rfl) (fun _ _ _ h => h) (Or.inl ⟨by rfl, ?hy11⟩) (Kept.refl _ _).drew ?_
            case hy11 => (intro W hSw; (try dsimp only at hSw); go_simp; try with_reducible rfl)
            try simp only [Act.put, List.setIfInBounds_toArray, List.set_cons_zero, List.set_cons_succ]
            refine Gz.take (i := 12) (oi := { dst := some 80, op := Op.move (Operand.tmp 0), type := 24, pos := _, after := _, guard := some (7, false) }) (v := ?_) rfl (by kernel_rfl) (by kernel_rfl) (by kernel_rfl) (by kernel_rfl) (fun _ _ _ h => h) (Or.inl ⟨by rfl, ?hy12⟩) (Kept.refl _ _).drew ?_
            case hy12 => (intro W hSw; (try dsimp only at hSw); go_simp; try with_reducible rfl)
            try simp only [Act.put, List.setIfInBounds_toArray, List.set_cons_zero, List.set_cons_succ]
            refine Gz.take (i := 13) (oi := { dst := some 81, op := Op.move (Operand.tmp 8), type := 3, pos := _, after := _, guard := some (7, false) }) (v := ?_) rfl (by kernel_rfl) (by kernel_rfl) (by kernel_rfl) (by kernel_rfl) (fun _ _ _ h => h) (Or.inl ⟨by rfl, ?hy13⟩) (Kept.refl _ _).drew ?_
            case hy13 => (intro W hSw; (try dsimp only at hSw); go_simp; try with_reducible rfl)
            try simp only [Act.put, List.setIfInBounds_toArray, List.set_cons_zero, List.set_cons_succ]
            refine Gz.take (i := 14) (oi := { dst := some 82, op := Op.indexAddr 24 (Operand.tmp 80) (Operand.tmp 81), type := 0, pos := _, after := _, guard := some (7, false) }) (v := ?_) rfl (by kernel_rfl) (by kernel_rfl) (by kernel_rfl) (by kernel_rfl) (fun _ _ _ h => h) (Or.inl ⟨by rfl, ?hy14⟩) (Kept.refl _ _).drew ?_
            case hy14 => (intro W hSw; (try dsimp only at hSw); go_simp; try with_reducible rfl)
            try simp only [Act.put, List.setIfInBounds_toArray, List.set_cons_zero, List.set_cons_succ]
            refine Gz.take (i := 15) (oi := { dst := some 83, op := Op.load 9 (Operand.tmp 82), type := 9, pos := _, after := _, guard := some (7, false) }) (v := ?_) rfl (by kernel_rfl) (by kernel_rfl) (by kernel_rfl) (by kernel_rfl) (fun _ _ _ h => h) (Or.inl ⟨by rfl, ?hy15⟩) (Kept.refl _ _).drew ?_
            case hy15 => (intro W hSw; (try dsimp only at hSw); go_simp; try with_reducible rfl)
            try simp only [Act.put, List.setIfInBounds_toArray, List.set_cons_zero, List.set_cons_succ]
            refine Gz.take (i := 16) (oi := { dst := some 84, op := Op.binOp BinOp.eql 9 (Operand.tmp 79) (Operand.tmp 83) 9, type := 4, pos := _, after := _, guard := some (7, false) }) (v := ?_) rfl (by kernel_rfl) (by kernel_rfl) (by kernel_rfl) (by kernel_rfl) (fun _ _ _ h => h) (Or.inl ⟨by rfl, ?hy16⟩) (Kept.refl _ _).drew ?_
            case hy16 => (intro W hSw; (try dsimp only at hSw); go_simp; try with_reducible rfl)
            try simp only [Act.put, List.setIfInBounds_toArray, List.set_cons_zero, List.set_cons_succ]
            refine Gz.take (i := 17) (oi := { dst := some 85, op := Op.move (Operand.tmp 84), type := 4, pos := _, after := _, guard := some (7, false) }) (v := ?_) rfl (by kernel_rfl) (by kernel_rfl) (by kernel_rfl) (by kernel_rfl) (fun _ _ _ h => h) (Or.inl ⟨by rfl, ?hy17⟩) (Kept.refl _ _).drew ?_
            case hy17 => (intro W hSw; (try dsimp only at hSw); go_simp; try with_reducible rfl)
            try simp only [Act.put, List.setIfInBounds_toArray, List.set_cons_zero, List.set_cons_succ]
            refine Gz.take (i := 18) (oi := { dst := some 86, op := Op.move (Operand.tmp 12), type := 4, pos := _, after := _, guard := some (17, true) }) (v := ?_) rfl (by kernel_rfl) (by kernel_rfl) (by kernel_rfl) (by kernel_rfl) (fun _ _ _ h => h) (Or.inl ⟨by rfl, ?hy18⟩) (Kept.refl _ _).drew ?_
            case hy18 => (intro W hSw; (try dsimp only at hSw); go_simp; try with_reducible rfl)
            try simp only [Act.put, List.setIfInBounds_toArray, List.set_cons_zero, List.set_cons_succ]
            refine Gz.take (i := 19) (oi := { dst := some 87, op := Op.unOp UnOp.not 4 (Operand.tmp 86), type := 4, pos := _, after := _, guard := some (17, true) }) (v := ?_) rfl (by kernel_rfl) (by kernel_rfl) (by kernel_rfl) (by kernel_rfl) (fun _ _ _ h => h) (Or.inl ⟨by rfl, ?hy19⟩) (Kept.refl _ _).drew ?_
            case hy19 => (intro W hSw; (try dsimp only at hSw); go_simp; try with_reducible rfl)
            try simp only [Act.put, List.setIfInBounds_toArray, List.set_cons_zero, List.set_cons_succ]
            refine Gz.take (i := 20) (oi := { dst := some 88, op := Op.pick (Operand.tmp 85) (Operand.tmp 87) (Operand.const (Value.bool false)), type := 4, pos := _, after := _, guard := some (7, false) }) (v := ?_) rfl (by kernel_rfl) (by kernel_rfl) (by kernel_rfl) (by kernel_rfl) (fun _ _ _ h => h) (Or.inl ⟨by rfl, ?hy20⟩) (Kept.refl _ _).drew ?_
            case hy20 => (intro W hSw; (try dsimp only at hSw); go_simp; try with_reducible rfl)
            try simp only [Act.put, List.setIfInBounds_toArray, List.set_cons_zero, List.set_cons_succ]
            refine Gz.take (i := 21) (oi := { dst := some 89, op := Op.pick (Operand.tmp 75) (Operand.const (Value.bool true)) (Operand.tmp 88), type := 4, pos := _, after := _, guard := none }) (v := ?_) rfl (by kernel_rfl) (by kernel_rfl) (by kernel_rfl) (by kernel_rfl) (fun _ _ _ h => h) (Or.inl ⟨by rfl, ?hy21⟩) (Kept.refl _ _).drew ?_
            case hy21 => (intro W hSw; (try dsimp only at hSw); go_simp; try with_reducible rfl)
            try simp only [Act.put, List.setIfInBounds_toArray, List.set_cons_zero, List.set_cons_succ]
            refine Gz.done (by kernel_rfl) ?_ _
            go_wp2_with fail
            obtain ⟨w9, hw9⟩ : ∃ x, x = w8.drew := ⟨_, rfl⟩
            rw [← hw9]
            have K9 : Hid (Kept (fun _ => True) w5' w9) := by rw [hw9]; exact K7.out.drew
            have ck9 : ∀ W, Kept (fun _ => True) w9 W → W.cell? ⟨b1, o1 + k, none⟩ = some (.string ⟨M.toArray⟩) := fun W hW => ck W (((Kept.refl _ _).drew).trans (by rw [hw9] at hW; exact hW))
            have cm9 : ∀ W, Kept (fun _ => True) w9 W → W.cell? ⟨gm, k, none⟩ = some (.string ⟨M.toArray⟩) := fun W hW => cm W (((Kept.refl _ _).drew).trans (by rw [hw9] at hW; exact hW))
            clear ck cm hw9
            refine Gz.begin (fun W => Kept (fun _ => True) w9 W) (fun _ => false) (by kernel_rfl) ?_
            refine Gz.take (i := 0) (oi := { dst := some 90, op := Op.move (Operand.tmp 11), type := 3, pos := _, after := _, guard := none }) (v := ?_) rfl (by kernel_rfl) (by kernel_rfl) (by kernel_rfl) (by kernel_rfl) (fun _ _ _ h => h) (Or.inl ⟨by rfl, ?hy0⟩) (Kept.refl _ _).drew ?_
            case hy0 => (intro W hSw; (try dsimp only at hSw); go_simp; try with_reducible rfl)
            try simp only [Act.put, List.setIfInBounds_toArray, List.set_cons_zero, List.set_cons_succ]
            refine Gz.take (i := 1) (oi := { dst := some 91, op := Op.move (Operand.tmp 8), type := 3, pos := _, after := _, guard := none }) (v := ?_) rfl (by kernel_rfl) (by kernel_rfl) (by kernel_rfl) (by kernel_rfl) (fun _ _ _ h => h) (Or.inl ⟨by rfl, ?hy1⟩) (Kept.refl _ _).drew ?_
            case hy1 => (intro W hSw; (try dsimp only at hSw); go_simp; try with_reducible rfl)
            try simp only [Act.put, List.setIfInBounds_toArray, List.set_cons_zero, List.set_cons_succ]
            refine Gz.take (i := 2) (oi := { dst := some 92, op := Op.binOp BinOp.geq 3 (Operand.tmp 90) (Operand.tmp 91) 3, type := 4, pos := _, after := _, guard := none }) (v := ?_) rfl (by kernel_rfl) (by kernel_rfl) (by kernel_rfl) (by kernel_rfl) (fun _ _ _ h => h) (Or.inl ⟨by rfl, ?hy2⟩) (Kept.refl _ _).drew ?_
            case hy2 => (intro W hSw; (try dsimp only at hSw); go_simp; try with_reducible rfl)
            try simp only [Act.put, List.setIfInBounds_toArray, List.set_cons_zero, List.set_cons_succ]
            refine Gz.take (i := 3) (oi := { dst := some 93, op := Op.move (Operand.tmp 92), type := 4, pos := _, after := _, guard := none }) (v := ?_) rfl (by kernel_rfl) (by kernel_rfl) (by kernel_rfl) (by kernel_rfl) (fun _ _ _ h => h) (Or.inl ⟨by rfl, ?hy3⟩) (Kept.refl _ _).drew ?_
            case hy3 => (intro W hSw; (try dsimp only at hSw); go_simp; try with_reducible rfl)
            try simp only [Act.put, List.setIfInBounds_toArray, List.set_cons_zero, List.set_cons_succ]
            refine Gz.take (i := 4) (oi := { dst := some 94, op := Op.move (Operand.tmp 7), type := 24, pos := _, after := _, guard := some (3, true) }) (v := ?_) rfl (by kernel_rfl) (by kernel_rfl) (by kernel_rfl) (by kernel_rfl) (fun _ _ _ h => h) (Or.inl ⟨by rfl, ?hy4⟩) (Kept.refl _ _).drew ?_
            case hy4 => (intro W hSw; (try dsimp only at hSw); go_simp; try with_reducible rfl)
            try simp only [Act.put, List.setIfInBounds_toArray, List.set_cons_zero, List.set_cons_succ]
            refine Gz.take (i := 5) (oi := { dst := some 95, op := Op.move (Operand.tmp 8), type := 3, pos := _, after := _, guard := some (3, true) }) (v := ?_) rfl (by kernel_rfl) (by kernel_rfl) (by kernel_rfl) (by kernel_rfl) (fun _ _ _ h => h) (Or.inl ⟨by rfl, ?hy5⟩) (Kept.refl _ _).drew ?_
            case hy5 => (intro W hSw; (try dsimp only at hSw); go_simp; try with_reducible rfl)
            try simp only [Act.put, List.setIfInBounds_toArray, List.set_cons_zero, List.set_cons_succ]
            refine Gz.take (i := 6) (oi := { dst := some 96, op := Op.indexAddr 24 (Operand.tmp 94) (Operand.tmp 95), type := 0, pos := _, after := _, guard := some (3, true) }) (v := ?_) rfl (by kernel_rfl) (by kernel_rfl) (by kernel_rfl) (by kernel_rfl) (fun _ _ _ h => h) (Or.inl ⟨by rfl, ?hy6⟩) (Kept.refl _ _).drew ?_
            case hy6 => (intro W hSw; (try dsimp only at hSw); go_simp; try with_reducible rfl)
            try simp only [Act.put, List.setIfInBounds_toArray, List.set_cons_zero, List.set_cons_succ]
            refine Gz.take (i := 7) (oi := { dst := some 97, op := Op.load 9 (Operand.tmp 96), type := 9, pos := _, after := _, guard := some (3, true) }) (v := ?_) rfl (by kernel_rfl) (by kernel_rfl) (by kernel_rfl) (by kernel_rfl) (fun _ _ _ h => h) (Or.inl ⟨by rfl, ?hy7⟩) (Kept.refl _ _).drew ?_
            case hy7 => (intro W hSw; (try dsimp only at hSw); go_simp; try with_reducible rfl)
            try simp only [Act.put, List.setIfInBounds_toArray, List.set_cons_zero, List.set_cons_succ]
            refine Gz.take (i := 8) (oi := { dst := some 98, op := Op.move (Operand.tmp 0), type := 24, pos := _, after := _, guard := some (3, true) }) (v := ?_) rfl (by kernel_rfl) (by kernel_rfl) (by kernel_rfl) (by kernel_rfl) (fun _ _ _ h => h) (Or.inl ⟨by rfl, ?hy8⟩) (Kept.refl _ _).drew ?_
            case hy8 => (intro W hSw; (try dsimp only at hSw); go_simp; try with_reducible rfl)
            try simp only [Act.put, List.setIfInBounds_toArray, List.set_cons_zero, List.set_cons_succ]
            refine Gz.take (i := 9) (oi := { dst := some 99, op := Op.move (Operand.tmp 8), type := 3, pos := _, after := _, guard := some (3, true) }) (v := ?_) rfl (by kernel_rfl) (by kernel_rfl) (by kernel_rfl) (by kernel_rfl) (fun _ _ _ h => h) (Or.inl ⟨by rfl, ?hy9⟩) (Kept.refl _ _).drew ?_
            case hy9 => (intro W hSw; (try dsimp only at hSw); go_simp; try with_reducible rfl)
            try simp only [Act.put, List.setIfInBounds_toArray, List.set_cons_zero, List.set_cons_succ]
            refine Gz.take (i := 10) (oi := { dst := some 100, op := Op.indexAddr 24 (Operand.tmp 98) (Operand.tmp 99), type := 0, pos := _, after := _, guard := some (3, true) }) (v := ?_) rfl (by kernel_rfl) (by kernel_rfl) (by kernel_rfl) (by kernel_rfl) (fun _ _ _ h => h) (Or.inl ⟨by rfl, ?hy10⟩) (Kept.refl _ _).drew ?_
            case hy10 => (intro W hSw; (try dsimp only at hSw); go_simp; try with_reducible rfl)
            try simp only [Act.put, List.setIfInBounds_toArray, List.set_cons_zero, List.set_cons_succ]
            refine Gz.take (i := 11) (oi := { dst := some 101, op := Op.load 9 (Operand.tmp 100), type := 9, pos := _, after := _, guard := some (3, true) }) (v := ?_) rfl (by kernel_rfl) (by kernel_rfl) (by kernel_rfl) (by kernel_rfl) (fun _ _ _ h => h) (Or.inl ⟨by rfl, ?hy11⟩) (Kept.refl _ _).drew ?_
            case hy11 => (intro W hSw; (try dsimp only at hSw); go_simp; try with_reducible rfl)
            try simp only [Act.put, List.setIfInBounds_toArray, List.set_cons_zero, List.set_cons_succ]
            refine Gz.take (i := 12) (oi := { dst := some 102, op := Op.binOp BinOp.neq 9 (Operand.tmp 97) (Operand.tmp 101) 9, type := 4, pos := _, after := _, guard := some (3, true) }) (v := ?_) rfl (by kernel_rfl) (by kernel_rfl) (by kernel_rfl) (by kernel_rfl) (fun _ _ _ h => h) (Or.inl ⟨by rfl, ?hy12⟩) (Kept.refl _ _).drew ?_
            case hy12 => (intro W hSw; (try dsimp only at hSw); go_simp; try with_reducible rfl)
            try simp only [Act.put, List.setIfInBounds_toArray, List.set_cons_zero, List.set_cons_succ]
            refine Gz.take (i := 13) (oi := { dst := some 103, op := Op.pick (Operand.tmp 93) (Operand.tmp 102) (Operand.const (Value.bool false)), type := 4, pos := _, after := _, guard := none }) (v := ?_) rfl (by kernel_rfl) (by kernel_rfl) (by kernel_rfl) (by kernel_rfl) (fun _ _ _ h => h) (Or.inl ⟨by rfl, ?hy13⟩) (Kept.refl _ _).drew ?_
            case hy13 => (intro W hSw; (try dsimp only at hSw); go_simp; try with_reducible rfl)
            try simp only [Act.put, List.setIfInBounds_toArray, List.set_cons_zero, List.set_cons_succ]
            refine Gz.take (i := 14) (oi := { dst := some 104, op := Op.move (Operand.tmp 103), type := 4, pos := _, after := _, guard := none }) (v := ?_) rfl (by kernel_rfl) (by kernel_rfl) (by kernel_rfl) (by kernel_rfl) (fun _ _ _ h => h) (Or.inl ⟨by rfl, ?hy14⟩) (Kept.refl _ _).drew ?_
            case hy14 => (intro W hSw; (try dsimp only at hSw); go_simp; try with_reducible rfl)
            try simp only [Act.put, List.setIfInBounds_toArray, List.set_cons_zero, List.set_cons_succ]
            refine Gz.take (i := 15) (oi := { dst := some 105, op := Op.move (Operand.tmp 12), type := 4, pos := _, after := _, guard := some (14, true) }) (v := undef) rfl (by kernel_rfl) (by kernel_rfl) (by kernel_rfl) (by kernel_rfl) (fun _ _ _ h => h) (Or.inr ⟨by rfl, rfl⟩) (Kept.refl _ _).drew ?_
            try simp only [Act.put, List.setIfInBounds_toArray, List.set_cons_zero, List.set_cons_succ]
            refine Gz.take (i := 16) (oi := { dst := some 106, op := Op.pick (Operand.tmp 104) (Operand.tmp 105) (Operand.const (Value.bool false)), type := 4, pos := _, after := _, guard := none }) (v := ?_) rfl (by kernel_rfl) (by kernel_rfl) (by kernel_rfl) (by kernel_rfl) (fun _ _ _ h => h) (Or.inl ⟨by rfl, ?hy16⟩) (Kept.refl _ _).drew ?_
            case hy16 => (intro W hSw; (try dsimp only at hSw); go_simp; try with_reducible rfl)
            try simp only [Act.put, List.setIfInBounds_toArray, List.set_cons_zero, List.set_cons_succ]
            refine Gz.done (by kernel_rfl) ?_ _
            go_wp2_with fail
            go_roundw
            case rel => exact ⟨i + 1, by omega, by go_num, K9.out.drew⟩
            case measure => simp [intOf]; omega
        · have hne : (M == tk) = false := beq_eq_false_iff_ne.2 hq
          clear hq HS1 HS2
          cases sm with
          | false =>
            as_aux_lemma =>
              obtain ⟨w8, hw8⟩ : ∃ x, x = w7 := ⟨_, rfl⟩
              rw [← hw8] at K7 ⊢
              have ck : ∀ W, Kept (fun _ => True) w8 W → W.cell? ⟨b1, o1 + k, none⟩ = some (.string ⟨tk.toArray⟩) := fun W hW => ckk W (by rw [hw8] at hW; exact hW)
              have cm : ∀ W, Kept (fun _ => True) w8 W → W.cell? ⟨gm, k, none⟩ = some (.string ⟨M.toArray⟩) := fun W hW => cmm W (by rw [hw8] at hW; exact hW)
              clear ckk cmm hw8
              refine Gz.begin (fun W => Kept (fun _ => True) w8 W) (fun _ => false) (by kernel_rfl) ?_
              refine Gz.take (i := 0) (oi := { dst := some 68, op := Op.move (Operand.tmp 11), type := 3, pos := _, after := _, guard := none }) (v := ?_) rfl (by kernel_rfl) (by kernel_rfl) (by kernel_rfl) (by kernel_rfl) (fun _ _ _ h => h) (Or.inl ⟨by rfl, ?hy0⟩) (Kept.refl _ _).drew ?_
              case hy0 => (intro W hSw; (try dsimp only at hSw); go_simp; try with_reducible rfl)
              try simp only [Act.put, List.setIfInBounds_toArray, List.set_cons_zero, List.set_cons_succ]
              refine Gz.take (i := 1) (oi := { dst := some 69, op := Op.move (Operand.tmp 8), type := 3, pos := _, after := _, guard := none }) (v := ?_) rfl (by kernel_rfl) (by kernel_rfl) (by kernel_rfl) (by kernel_rfl) (fun _ _ _ h => h) (Or.inl ⟨by rfl, ?hy1⟩) (Kept.refl _ _).drew ?_
              case hy1 => (intro W hSw; (try dsimp only at hSw); go_simp; try with_reducible rfl)
              try simp only [Act.put, List.setIfInBounds_toArray, List.set_cons_zero, List.set_cons_succ]
              refine Gz.take (i := 2) (oi := { dst := some 70, op := Op.binOp BinOp.lss 3 (Operand.tmp 68) (Operand.tmp 69) 3, type := 4, pos := _, after := _, guard := none }) (v := ?_) rfl (by kernel_rfl) (by kernel_rfl) (by kernel_rfl) (by kernel_rfl) (fun _ _ _ h => h) (Or.inl ⟨by rfl, ?hy2⟩) (Kept.refl _ _).drew ?_
              case hy2 => (intro W hSw; (try dsimp only at hSw); go_simp; try with_reducible rfl)
              try simp only [Act.put, List.setIfInBounds_toArray, List.set_cons_zero, List.set_cons_succ]
              refine Gz.take (i := 3) (oi := { dst := some 71, op := Op.move (Operand.tmp 70), type := 4, pos := _, after := _, guard := none }) (v := ?_) rfl (by kernel_rfl) (by kernel_rfl) (by kernel_rfl) (by kernel_rfl) (fun _ _ _ h => h) (Or.inl ⟨by rfl, ?hy3⟩) (Kept.refl _ _).drew ?_
              case hy3 => (intro W hSw; (try dsimp only at hSw); go_simp; try with_reducible rfl)
              try simp only [Act.put, List.setIfInBounds_toArray, List.set_cons_zero, List.set_cons_succ]
              refine Gz.take (i := 4) (oi := { dst := some 72, op := Op.move (Operand.tmp 12), type := 4, pos := _, after := _, guard := some (3, true) }) (v := undef) rfl (by kernel_rfl) (by kernel_rfl) (by kernel_rfl) (by kernel_rfl) (fun _ _ _ h => h) (Or.inr ⟨by rfl, rfl⟩) (Kept.refl _ _).drew ?_
              try simp only [Act.put, List.setIfInBounds_toArray, List.set_cons_zero, List.set_cons_succ]
              refine Gz.take (i := 5) (oi := { dst := some 73, op := Op.unOp UnOp.not 4 (Operand.tmp 72), type := 4, pos := _, after := _, guard := some (3, true) }) (v := undef) rfl (by kernel_rfl) (by kernel_rfl) (by kernel_rfl) (by kernel_rfl) (fun _ _ _ h => h) (Or.inr ⟨by rfl, rfl⟩) (Kept.refl _ _).drew ?_
              try simp only [Act.put, List.setIfInBounds_toArray, List.set_cons_zero, List.set_cons_succ]
              refine Gz.take (i := 6) (oi := { dst := some 74, op := Op.pick (Operand.tmp 71) (Operand.tmp 73) (Operand.const (Value.bool false)), type := 4, pos := _, after := _, guard := none }) (v := ?_) rfl (by kernel_rfl) (by kernel_rfl) (by kernel_rfl) (by kernel_rfl) (fun _ _ _ h => h) (Or.inl ⟨by rfl, ?hy6⟩) (Kept.refl _ _).drew ?_
              case hy6 => (intro W hSw; (try dsimp only at hSw); go_simp; try with_reducible rfl)
              try simp only [Act.put, List.setIfInBounds_toArray, List.set_cons_zero, List.set_cons_succ]
              refine Gz.take (i := 7) (oi := { dst := some 75, op := Op.move (Operand.tmp 74), type := 4, pos := _, after := _, guard := none }) (v := ?_) rfl (by kernel_rfl) (by kernel_rfl) (by kernel_rfl) (by kernel_rfl) (fun _ _ _ h => h) (Or.inl ⟨by rfl, ?hy7⟩) (Kept.refl _ _).drew ?_
              case hy7 => (intro W hSw; (try dsimp only at hSw); go_simp; try with_reducible rfl)
              try simp only [Act.put, List.setIfInBounds_toArray, List.set_cons_zero, List.set_cons_succ]
              refine Gz.take (i := 8) (oi := { dst := some 76, op := Op.move (Operand.tmp 7), type := 24, pos := _, after := _, guard := some (7, false) }) (v := ?_) rfl (by kernel_rfl) (by kernel_rfl) (by kernel_rfl) (by kernel_rfl) (fun _ _ _ h => h) (Or.inl ⟨by rfl, ?hy8⟩) (Kept.refl _ _).drew ?_
              case hy8 => (intro W hSw; (try dsimp only at hSw); go_simp; try with_reducible rfl)
              try simp only [Act.put, List.setIfInBounds_toArray, List.set_cons_zero, List.set_cons_succ]
              refine Gz.take (i := 9) (oi := { dst := some 77, op := Op.move (Operand.tmp 8), type := 3, pos := _, after := _, guard := some (7, false) }) (v := ?_) rfl (by kernel_rfl) (by kernel_rfl) (by kernel_rfl) (by kernel_rfl) (fun _ _ _ h => h) (Or.inl ⟨by rfl, ?hy9⟩) (Kept.refl _ _).drew ?_
              case hy9 => (intro W hSw; (try dsimp only at hSw); go_simp; try with_reducible rfl)
              try simp only [Act.put, List.setIfInBounds_toArray, List.set_cons_zero, List.set_cons_succ]
              refine Gz.take (i := 10) (oi := { dst := some 78, op := Op.indexAddr 24 (Operand.tmp 76) (Operand.tmp 77), type := 0, pos := _, after := _, guard := some (7, false) }) (v := ?_) rfl (by kernel_rfl) (by kernel_rfl) (by kernel_rfl) (by kernel_rfl) (fun _ _ _ h => h) (Or.inl ⟨by rfl, ?hy10⟩) (Kept.refl _ _).drew ?_
              case hy10 => (intro W hSw; (try dsimp only at hSw); go_simp; try with_reducible rfl)
              try simp only [Act.put, List.setIfInBounds_toArray, List.set_cons_zero, List.set_cons_succ]
              refine Gz.take (i := 11) (oi := { dst := some 79, op := Op.load 9 (Operand.tmp 78), type := 9, pos := _, after := _, guard := some (7, false) }) (v := ?_) rfl (by kernel_rfl) (by kernel_rfl) (by kernel_rfl) (by kernel_rfl) (fun _ _ _ h => h) (Or.inl ⟨by rfl, ?hy11⟩) (Kept.refl _ _).drew ?_
              case hy11 => (intro W hSw; (try dsimp only at hSw); go_simp; try with_reducible rfl)
              try simp only [Act.put, List.setIfInBounds_toArray, List.set_cons_zero, List.set_cons_succ]
              refine Gz.take (i := 12) (oi := { dst := some 80, op := Op.move (Operand.tmp 0), type := 24, pos := _, after := _, guard := some (7, false) }) (v := ?_) rfl (by kernel_rfl) (by kernel_rfl) (by kernel_rfl) (by kernel_rfl) (fun _ _ _ h => h) (Or.inl ⟨by rfl, ?hy12⟩) (Kept.refl _ _).drew ?_
              case hy12 => (intro W hSw; (try dsimp only at hSw); go_simp; try with_reducible rfl)
              try simp only [Act.put, List.setIfInBounds_toArray, List.set_cons_zero, List.set_cons_succ]
              refine Gz.take (i := 13) (oi := { dst := some 81, op := Op.move (Operand.tmp 8), type := 3, pos := _, after := _, guard := some (7, false) }) (v := ?_) rfl (by kernel_rfl) (by kernel_rfl) (by kernel_rfl) (by kernel_rfl) (fun _ _ _ h => h) (Or.inl ⟨by rfl, ?hy13⟩) (Kept.refl _ _).drew ?_
              case hy13 => (intro W hSw; (try dsimp only at hSw); go_simp; try with_reducible rfl)
              try simp only [Act.put, List.setIfInBounds_toArray, List.set_cons_zero, List.set_cons_succ]
              refine Gz.take (i := 14) (oi := { dst := some 82, op := Op.indexAddr 24 (Operand.tmp 80) (Operand.tmp 81), type := 0, pos := _, after := _, guard := some (7, false) }) (v := ?_) rfl (by kernel_rfl) (by kernel_rfl) (by kernel_rfl) (by kernel_rfl) (fun _ _ _ h => h) (Or.inl ⟨by rfl, ?hy14⟩) (Kept.refl _ _).drew ?_
              case hy14 => (intro W hSw; (try dsimp only at hSw); go_simp; try with_reducible rfl)
              try simp only [Act.put, List.setIfInBounds_toArray, List.set_cons_zero, List.set_cons_succ]
              refine Gz.take (i := 15) (oi := { dst := some 83, op := Op.load 9 (Operand.tmp 82), type := 9, pos := _, after := _, guard := some (7, false) }) (v := ?_) rfl (by kernel_rfl) (by kernel_rfl) (by kernel_rfl) (by kernel_rfl) (fun _ _ _ h => h) (Or.inl ⟨by rfl, ?hy15⟩) (Kept.refl _ _).drew ?_
              case hy15 => (intro W hSw; (try dsimp only at hSw); go_simp; try with_reducible rfl)
              try simp only [Act.put, List.setIfInBounds_toArray, List.set_cons_zero, List.set_cons_succ]
              refine Gz.take (i := 16) (oi := { dst := some 84, op := Op.binOp BinOp.eql 9 (Operand.tmp 79) (Operand.tmp 83) 9, type := 4, pos := _, after := _, guard := some (7, false) }) (v := ?_) rfl (by kernel_rfl) (by kernel_rfl) (by kernel_rfl) (by kernel_rfl) (fun _ _ _ h => h) (Or.inl ⟨by rfl, ?hy16⟩) (Kept.refl _ _).drew ?_
              case hy16 => (intro W hSw; (try dsimp only at hSw); go_simp; try with_reducible rfl)
              try simp only [Act.put, List.setIfInBounds_toArray, List.set_cons_zero, List.set_cons_succ]
              refine Gz.take (i := 17) (oi := { dst := some 85, op := Op.move (Operand.tmp 84), type := 4, pos := _, after := _, guard := some (7, false) }) (v := ?_) rfl (by kernel_rfl) (by kernel_rfl) (by kernel_rfl) (by kernel_rfl) (fun _ _ _ h => h) (Or.inl ⟨by rfl, ?hy17⟩) (Kept.refl _ _).drew ?_
              case hy17 => (intro W hSw; (try dsimp only at hSw); go_simp; try with_reducible rfl)
              try simp only [Act.put, List.setIfInBounds_toArray, List.set_cons_zero, List.set_cons_succ]
              refine Gz.take (i := 18) (oi := { dst := some 86, op := Op.move (Operand.tmp 12), type := 4, pos := _, after := _, guard := some (17, true) }) (v := undef) rfl (by kernel_rfl) (by kernel_rfl) (by kernel_rfl) (by kernel_rfl) (fun _ _ _ h => h) (Or.inr ⟨by rfl, rfl⟩) (Kept.refl _ _).drew ?_
              try simp only [Act.put, List.setIfInBounds_toArray, List.set_cons_zero, List.set_cons_succ]
              refine Gz.take (i := 19) (oi := { dst := some 87, op := Op.unOp UnOp.not 4 (Operand.tmp 86), type := 4, pos := _, after := _, guard := some (17, true) }) (v := undef) rfl (by kernel_rfl) (by kernel_rfl) (by kernel_rfl) (by kernel_rfl) (fun _ _ _ h => h) (Or.inr ⟨by rfl, rfl⟩) (Kept.refl _ _).drew ?_
              try simp only [Act.put, List.setIfInBounds_toArray, List.set_cons_zero, List.set_cons_succ]
              refine Gz.take (i := 20) (oi := { dst := some 88, op := Op.pick (Operand.tmp 85) (Operand.tmp 87) (Operand.const (Value.bool false)), type := 4, pos := _, after := _, guard := some (7, false) }) (v := ?_) rfl (by kernel_rfl) (by kernel_rfl) (by kernel_rfl) (by kernel_rfl) (fun _ _ _ h => h) (Or.inl ⟨by rfl, ?hy20⟩) (Kept.refl _ _).drew ?_
              case hy20 => (intro W hSw; (try dsimp only at hSw); go_simp; try with_reducible rfl)
              try simp only [Act.put, List.setIfInBounds_toArray, List.set_cons_zero, List.set_cons_succ]
              refine Gz.take (i := 21) (oi := { dst := some 89, op := Op.pick (Operand.tmp 75) (Operand.const (Value.bool true)) (Operand.tmp 88), type := 4, pos := _, after := _, guard := none }) (v := ?_) rfl (by kernel_rfl) (by kernel_rfl) (by kernel_rfl) (by kernel_rfl) (fun _ _ _ h => h) (Or.inl ⟨by rfl, ?hy21⟩) (Kept.refl _ _).drew ?_
              case hy21 => (intro W hSw; (try dsimp only at hSw); go_simp; try with_reducible rfl)
              try simp only [Act.put, List.setIfInBounds_toArray, List.set_cons_zero, List.set_cons_succ]
              refine Gz.done (by kernel_rfl) ?_ _
              go_wp2_with fail
              obtain ⟨w9, hw9⟩ : ∃ x, x = w8.drew := ⟨_, rfl⟩
              rw [← hw9]
              have K9 : Hid (Kept (fun _ => True) w5' w9) := by rw [hw9]; exact K7.out.drew
              have ck9 : ∀ W, Kept (fun _ => True) w9 W → W.cell? ⟨b1, o1 + k, none⟩ = some (.string ⟨tk.toArray⟩) := fun W hW => ck W (((Kept.refl _ _).drew).trans (by rw [hw9] at hW; exact hW))
              have cm9 : ∀ W, Kept (fun _ => True) w9 W → W.cell? ⟨gm, k, none⟩ = some (.string ⟨M.toArray⟩) := fun W hW => cm W (((Kept.refl _ _).drew).trans (by rw [hw9] at hW; exact hW))
              clear ck cm hw9
              refine Gz.begin (fun W => Kept (fun _ => True) w9 W) (fun _ => false) (by kernel_rfl) ?_
              refine Gz.take (i := 0) (oi := { dst := some 90, op := Op.move (Operand.tmp 11), type := 3, pos := _, after := _, guard := none }) (v := ?_) rfl (by kernel_rfl) (by kernel_rfl) (by kernel_rfl) (by kernel_rfl) (fun _ _ _ h => h) (Or.inl ⟨by rfl, ?hy0⟩) (Kept.refl _ _).drew ?_
              case hy0 => (intro W hSw; (try dsimp only at hSw); go_simp; try with_reducible rfl)
              try simp only [Act.put, List.setIfInBounds_toArray, List.set_cons_zero, List.set_cons_succ]
              refine Gz.take (i := 1) (oi := { dst := some 91, op := Op.move (Operand.tmp 8), type := 3, pos := _, after := _, guard := none }) (v := ?_) rfl (by kernel_rfl) (by kernel_rfl) (by kernel_rfl) (by kernel_rfl) (fun _ _ _ h => h) (Or.inl ⟨by rfl, ?hy1⟩) (Kept.refl _ _).drew ?_
              case hy1 => (intro W hSw; (try dsimp only at hSw); go_simp; try with_reducible rfl)
              try simp only [Act.put, List.setIfInBounds_toArray, List.set_cons_zero, List.set_cons_succ]
              refine Gz.take (i := 2) (oi := { dst := some 92, op := Op.binOp BinOp.geq 3 (Operand.tmp 90) (Operand.tmp 91) 3, type := 4, pos := _, after := _, guard := none }) (v := ?_) rfl (by kernel_rfl) (by kernel_rfl) (by kernel_rfl) (by kernel_rfl) (fun _ _ _ h => h) (Or.inl ⟨by rfl, ?hy2⟩) (Kept.refl _ _).drew ?_
              case hy2 => (intro W hSw; (try dsimp only at hSw); go_simp; try with_reducible rfl)
              try simp only [Act.put, List.setIfInBounds_toArray, List.set_cons_zero, List.set_cons_succ]
              refine Gz.take (i := 3) (oi := { dst := some 93, op := Op.move (Operand.tmp 92), type := 4, pos := _, after := _, guard := none }) (v := ?_) rfl (by kernel_rfl) (by kernel_rfl) (by kernel_rfl) (by kernel_rfl) (fun _ _ _ h => h) (Or.inl ⟨by rfl, ?hy3⟩) (Kept.refl _ _).drew ?_
              case hy3 => (intro W hSw; (try dsimp only at hSw); go_simp; try with_reducible rfl)
              try simp only [Act.put, List.setIfInBounds_toArray, List.set_cons_zero, List.set_cons_succ]
              refine Gz.take (i := 4) (oi := { dst := some 94, op := Op.move (Operand.tmp 7), type := 24, pos := _, after := _, guard := some (3, true) }) (v := ?_) rfl (by kernel_rfl) (by kernel_rfl) (by kernel_rfl) (by kernel_rfl) (fun _ _ _ h => h) (Or.inl ⟨by rfl, ?hy4⟩) (Kept.refl _ _).drew ?_
              case hy4 => (intro W hSw; (try dsimp only at hSw); go_simp; try with_reducible rfl)
              try simp only [Act.put, List.setIfInBounds_toArray, List.set_cons_zero, List.set_cons_succ]
              refine Gz.take (i := 5) (oi := { dst := some 95, op := Op.move (Operand.tmp 8), type := 3, pos := _, after := _, guard := some (3, true) }) (v := ?_) rfl (by kernel_rfl) (by kernel_rfl) (by kernel_rfl) (by kernel_rfl) (fun _ _ _ h => h) (Or.inl ⟨by rfl, ?hy5⟩) (Kept.refl _ _).drew ?_
              case hy5 => (intro W hSw; (try dsimp only at hSw); go_simp; try with_reducible rfl)
              try simp only [Act.put, List.setIfInBounds_toArray, List.set_cons_zero, List.set_cons_succ]
              refine Gz.take (i := 6) (oi := { dst := some 96, op := Op.indexAddr 24 (Operand.tmp 94) (Operand.tmp 95), type := 0, pos := _, after := _, guard := some (3, true) }) (v := ?_) rfl (by kernel_rfl) (by kernel_rfl) (by kernel_rfl) (by kernel_rfl) (fun _ _ _ h => h) (Or.inl ⟨by rfl, ?hy6⟩) (Kept.refl _ _).drew ?_
              case hy6 => (intro W hSw; (try dsimp only at hSw); go_simp; try with_reducible rfl)
              try simp only [Act.put, List.setIfInBounds_toArray, List.set_cons_zero, List.set_cons_succ]
              refine Gz.take (i := 7) (oi := { dst := some 97, op := Op.load 9 (Operand.tmp 96), type := 9, pos := _, after := _, guard := some (3, true) }) (v := ?_) rfl (by kernel_rfl) (by kernel_rfl) (by kernel_rfl) (by kernel_rfl) (fun _ _ _ h => h) (Or.inl ⟨by rfl, ?hy7⟩) (Kept.refl _ _).drew ?_
              case hy7 => (intro W hSw; (try dsimp only at hSw); go_simp; try with_reducible rfl)
              try simp only [Act.put, List.setIfInBounds_toArray, List.set_cons_zero, List.set_cons_succ]
              refine Gz.take (i := 8) (oi := { dst := some 98, op := Op.move (Operand.tmp 0), type := 24, pos := _, after := _, guard := some (3, true) }) (v := ?_) rfl (by kernel_rfl) (by kernel_rfl) (by kernel_rfl) (by kernel_rfl) (fun _ _ _ h => h) (Or.inl ⟨by rfl, ?hy8⟩) (Kept.refl _ _).drew ?_
              case hy8 => (intro W hSw; (try dsimp only at hSw); go_simp; try with_reducible rfl)
              try simp only [Act.put, List.setIfInBounds_toArray, List.set_cons_zero, List.set_cons_succ]
              refine Gz.take (i := 9) (oi := { dst := some 99, op := Op.move (Operand.tmp 8), type := 3, pos := _, after := _, guard := some (3, true) }) (v := ?_) rfl (by kernel_rfl) (by kernel_rfl) (by kernel_rfl) (by kernel_rfl) (fun _ _ _ h => h) (Or.inl ⟨by rfl, ?hy9⟩) (Kept.refl _ _).drew ?_
              case hy9 => (intro W hSw; (try dsimp only at hSw); go_simp; try with_reducible rfl)
              try simp only [Act.put, List.setIfInBounds_toArray, List.set_cons_zero, List.set_cons_succ]
              refine Gz.take (i := 10) (oi := { dst := some 100, op := Op.indexAddr 24 (Operand.tmp 98) (Operand.tmp 99), type := 0, pos := _, after := _, guard := some (3, true) }) (v := ?_) rfl (by kernel_rfl) (by kernel_rfl) (by kernel_rfl) (by kernel_rfl) (fun _ _ _ h => h) (Or.inl ⟨by rfl, ?hy10⟩) (Kept.refl _ _).drew ?_
              case hy10 => (intro W hSw; (try dsimp only at hSw); go_simp; try with_reducible rfl)
              try simp only [Act.put, List.setIfInBounds_toArray, List.set_cons_zero, List.set_cons_succ]
              refine Gz.take (i := 11) (oi := { dst := some 101, op := Op.load 9 (Operand.tmp 100), type := 9, pos := _, after := _, guard := some (3, true) }) (v := ?_) rfl (by kernel_rfl) (by kernel_rfl) (by kernel_rfl) (by kernel_rfl) (fun _ _ _ h => h) (Or.inl ⟨by rfl, ?hy11⟩) (Kept.refl _ _).drew ?_
              case hy11 => (intro W hSw; (try dsimp only at hSw); go_simp; try with_reducible rfl)
              try simp only [Act.put, List.setIfInBounds_toArray, List.set_cons_zero, List.set_cons_succ]
              refine Gz.take (i := 12) (oi := { dst := some 102, op := Op.binOp BinOp.neq 9 (Operand.tmp 97) (Operand.tmp 101) 9, type := 4, pos := _, after := _, guard := some (3, true) }) (v := ?_) rfl (by kernel_rfl) (by kernel_rfl) (by kernel_rfl) (by kernel_rfl) (fun _ _ _ h => h) (Or.inl ⟨by rfl, ?hy12⟩) (Kept.refl _ _).drew ?_
              case hy12 => (intro W hSw; (try dsimp only at hSw); go_simp; try with_reducible rfl)
              try simp only [Act.put, List.setIfInBounds_toArray, List.set_cons_zero, List.set_cons_succ]
              refine Gz.take (i := 13) (oi := { dst := some 103, op := Op.pick (Operand.tmp 93) (Operand.tmp 102) (Operand.const (Value.bool false)), type := 4, pos := _, after := _, guard := none }) (v := ?_) rfl (by kernel_rfl) (by kernel_rfl) (by kernel_rfl) (by kernel_rfl) (fun _ _ _ h => h) (Or.inl ⟨by rfl, ?hy13⟩) (Kept.refl _ _).drew ?_
              case hy13 => (intro W hSw; (try dsimp only at hSw); go_simp; try with_reducible rfl)
              try simp only [Act.put, List.setIfInBounds_toArray, List.set_cons_zero, List.set_cons_succ]
              refine Gz.take (i := 14) (oi := { dst := some 104, op := Op.move (Operand.tmp 103), type := 4, pos := _, after := _, guard := none }) (v := ?_) rfl (by kernel_rfl) (by kernel_rfl) (by kernel_rfl) (by kernel_rfl) (fun _ _ _ h => h) (Or.inl ⟨by rfl, ?hy14⟩) (Kept.refl _ _).drew ?_
              case hy14 => (intro W hSw; (try dsimp only at hSw); go_simp; try with_reducible rfl)
              try simp only [Act.put, List.setIfInBounds_toArray, List.set_cons_zero, List.set_cons_succ]
              refine Gz.take (i := 15) (oi := { dst := some 105, op := Op.move (Operand.tmp 12), type := 4, pos := _, after := _, guard := some (14, true) }) (v := ?_) rfl (by kernel_rfl) (by kernel_rfl) (by kernel_rfl) (by kernel_rfl) (fun _ _ _ h => h) (Or.inl ⟨by rfl, ?hy15⟩) (Kept.refl _ _).drew ?_
              case hy15 => (intro W hSw; (try dsimp only at hSw); go_simp; try with_reducible rfl)
              try simp only [Act.put, List.setIfInBounds_toArray, List.set_cons_zero, List.set_cons_succ]
              refine Gz.take (i := 16) (oi := { dst := some 106, op := Op.pick (Operand.tmp 104) (Operand.tmp 105) (Operand.const (Value.bool false)), type := 4, pos := _, after := _, guard := none }) (v := ?_) rfl (by kernel_rfl) (by kernel_rfl) (by kernel_rfl) (by kernel_rfl) (fun _ _ _ h => h) (Or.inl ⟨by rfl, ?hy16⟩) (Kept.refl _ _).drew ?_
              case hy16 => (intro W hSw; (try dsimp only at hSw); go_simp; try with_reducible rfl)
              try simp only [Act.put, List.setIfInBounds_toArray, List.set_cons_zero, List.set_cons_succ]
              refine Gz.done (by kernel_rfl) ?_ _
              go_wp2_with fail
              go_roundw
              case rel => exact ⟨i + 1, by omega, by go_num, K9.out.drew⟩
              case measure => simp [intOf]; omega
          | true =>
            as_aux_lemma =>
              obtain ⟨w8, hw8⟩ : ∃ x, x = w7 := ⟨_, rfl⟩
              rw [← hw8] at K7 ⊢
              have ck : ∀ W, Kept (fun _ => True) w8 W → W.cell? ⟨b1, o1 + k, none⟩ = some (.string ⟨tk.toArray⟩) := fun W hW => ckk W (by rw [hw8] at hW; exact hW)
              have cm : ∀ W, Kept (fun _ => True) w8 W → W.cell? ⟨gm, k, none⟩ = some (.string ⟨M.toArray⟩) := fun W hW => cmm W (by rw [hw8] at hW; exact hW)
              clear ckk cmm hw8
              refine Gz.begin (fun W => Kept (fun _ => True) w8 W) (fun _ => false) (by kernel_rfl) ?_
              refine Gz.take (i := 0) (oi := { dst := some 68, op := Op.move (Operand.tmp 11), type := 3, pos := _, after := _, guard := none }) (v := ?_) rfl (by kernel_rfl) (by kernel_rfl) (by kernel_rfl) (by kernel_rfl) (fun _ _ _ h => h) (Or.inl ⟨by rfl, ?hy0⟩) (Kept.refl _ _).drew ?_
              case hy0 => (intro W hSw; (try dsimp only at hSw); go_simp; try with_reducible rfl)
              try simp only [Act.put, List.setIfInBounds_toArray, List.set_cons_zero, List.set_cons_succ]
              refine Gz.take (i := 1) (oi := { dst := some 69, op := Op.move (Operand.tmp 8), type := 3, pos := _, after := _, guard := none }) (v := ?_) rfl (by kernel_rfl) (by kernel_rfl) (by kernel_rfl) (by kernel_rfl) (fun _ _ _ h => h) (Or.inl ⟨by rfl, ?hy1⟩) (Kept.refl _ _).drew ?_
              case hy1 => (intro W hSw; (try dsimp only at hSw); go_simp; try with_reducible rfl)
              try simp only [Act.put, List.setIfInBounds_toArray, List.set_cons_zero, List.set_cons_succ]
              refine Gz.take (i := 2) (oi := { dst := some 70, op := Op.binOp BinOp.lss 3 (Operand.tmp 68) (Operand.tmp 69) 3, type := 4, pos := _, after := _, guard := none }) (v := ?_) rfl (by kernel_rfl) (by kernel_rfl) (by kernel_rfl) (by kernel_rfl) (fun _ _ _ h => h) (Or.inl ⟨by rfl, ?hy2⟩) (Kept.refl _ _).drew ?_
              case hy2 => (intro W hSw; (try dsimp only at hSw); go_simp; try with_reducible rfl)
              try simp only [Act.put, List.setIfInBounds_toArray, List.set_cons_zero, List.set_cons_succ]
              refine Gz.take (i := 3) (oi := { dst := some 71, op := Op.move (Operand.tmp 70), type := 4, pos := _, after := _, guard := none }) (v := ?_) rfl (by kernel_rfl) (by kernel_rfl) (by kernel_rfl) (by kernel_rfl) (fun _ _ _ h => h) (Or.inl ⟨by rfl, ?hy3⟩) (Kept.refl _ _).drew ?_
              case hy3 => (intro W hSw; (try dsimp only at hSw); go_simp; try with_reducible rfl)
              try simp only [Act.put, List.setIfInBounds_toArray, List.set_cons_zero, List.set_cons_succ]
              refine Gz.take (i := 4) (oi := { dst := some 72, op := Op.move (Operand.tmp 12), type := 4, pos := _, after := _, guard := some (3, true) }) (v := undef) rfl (by kernel_rfl) (by kernel_rfl) (by kernel_rfl) (by kernel_rfl) (fun _ _ _ h => h) (Or.inr ⟨by rfl, rfl⟩) (Kept.refl _ _).drew ?_
              try simp only [Act.put, List.setIfInBounds_toArray, List.set_cons_zero, List.set_cons_succ]
              refine Gz.take (i := 5) (oi := { dst := some 73, op := Op.unOp UnOp.not 4 (Operand.tmp 72), type := 4, pos := _, after := _, guard := some (3, true) }) (v := undef) rfl (by kernel_rfl) (by kernel_rfl) (by kernel_rfl) (by kernel_rfl) (fun _ _ _ h => h) (Or.inr ⟨by rfl, rfl⟩) (Kept.refl _ _).drew ?_
              try simp only [Act.put, List.setIfInBounds_toArray, List.set_cons_zero, List.set_cons_succ]
              refine Gz.take (i := 6) (oi := { dst := some 74, op := Op.pick (Operand.tmp 71) (Operand.tmp 73) (Operand.const (Value.bool false)), type := 4, pos := _, after := _, guard := none }) (v := ?_) rfl (by kernel_rfl) (by kernel_rfl) (by kernel_rfl) (by kernel_rfl) (fun _ _ _ h => h) (Or.inl ⟨by rfl, ?hy6⟩) (Kept.refl _ _).drew ?_
              case hy6 => (intro W hSw; (try dsimp only at hSw); go_simp; try with_reducible rfl)
              try simp only [Act.put, List.setIfInBounds_toArray, List.set_cons_zero, List.set_cons_succ]
              refine Gz.take (i := 7) (oi := { dst := some 75, op := Op.move (Operand.tmp 74), type := 4, pos := _, after := _, guard := none }) (v := ?_) rfl (by kernel_rfl) (by kernel_rfl) (by kernel_rfl) (by kernel_rfl) (fun _ _ _ h => h) (Or.inl ⟨by rfl, ?hy7⟩) (Kept.refl _ _).drew ?_
              case hy7 => (intro W hSw; (try dsimp only at hSw); go_simp; try with_reducible rfl)
              try simp only [Act.put, List.setIfInBounds_toArray, List.set_cons_zero, List.set_cons_succ]
              refine Gz.take (i := 8) (oi := { dst := some 76, op := Op.move (Operand.tmp 7), type := 24, pos := _, after := _, guard := some (7, false) }) (v := ?_) rfl (by kernel_rfl) (by kernel_rfl) (by kernel_rfl) (by kernel_rfl) (fun _ _ _ h => h) (Or.inl ⟨by rfl, ?hy8⟩) (Kept.refl _ _).drew ?_
              case hy8 => (intro W hSw; (try dsimp only at hSw); go_simp; try with_reducible rfl)
              try simp only [Act.put, List.setIfInBounds_toArray, List.set_cons_zero, List.set_cons_succ]
              refine Gz.take (i := 9) (oi := { dst := some 77, op := Op.move (Operand.tmp 8), type := 3, pos := _, after := _, guard := some (7, false) }) (v := ?_) rfl (by kernel_rfl) (by kernel_rfl) (by kernel_rfl) (by kernel_rfl) (fun _ _ _ h => h) (Or.inl ⟨by rfl, ?hy9⟩) (Kept.refl _ _).drew ?_
              case hy9 => (intro W hSw; (try dsimp only at hSw); go_simp; try with_reducible rfl)
              try simp only [Act.put, List.setIfInBounds_toArray, List.set_cons_zero, List.set_cons_succ]
              refine Gz.take (i := 10) (oi := { dst := some 78, op := Op.indexAddr 24 (Operand.tmp 76) (Operand.tmp 77), type := 0, pos := _, after := _, guard := some (7, false) }) (v := ?_) rfl (by kernel_rfl) (by kernel_rfl) (by kernel_rfl) (by kernel_rfl) (fun _ _ _ h => h) (Or.inl ⟨by rfl, ?hy10⟩) (Kept.refl _ _).drew ?_
              case hy10 => (intro W hSw; (try dsimp only at hSw); go_simp; try with_reducible rfl)
              try simp only [Act.put, List.setIfInBounds_toArray, List.set_cons_zero, List.set_cons_succ]
              refine Gz.take (i := 11) (oi := { dst := some 79, op := Op.load 9 (Operand.tmp 78), type := 9, pos := _, after := _, guard := some (7, false) }) (v := ?_) rfl (by kernel_rfl) (by kernel_rfl) (by kernel_rfl) (by kernel_rfl) (fun _ _ _ h => h) (Or.inl ⟨by rfl, ?hy11⟩) (Kept.refl _ _).drew ?_
              case hy11 => (intro W hSw; (try dsimp only at hSw); go_simp; try with_reducible rfl)
              try simp only [Act.put, List.setIfInBounds_toArray, List.set_cons_zero, List.set_cons_succ]
              refine Gz.take (i := 12) (oi := { dst := some 80, op := Op.move (Operand.tmp 0), type := 24, pos := _, after := _, guard := some (7, false) }) (v := ?_) rfl (by kernel_rfl) (by kernel_rfl) (by kernel_rfl) (by kernel_rfl) (fun _ _ _ h => h) (Or.inl ⟨by rfl, ?hy12⟩) (Kept.refl _ _).drew ?_
              case hy12 => (intro W hSw; (try dsimp only at hSw); go_simp; try with_reducible rfl)
              try simp only [Act.put, List.setIfInBounds_toArray, List.set_cons_zero, List.set_cons_succ]
              refine Gz.take (i := 13) (oi := { dst := some 81, op := Op.move (Operand.tmp 8), type := 3, pos := _, after := _, guard := some (7, false) }) (v := ?_) rfl (by kernel_rfl) (by kernel_rfl) (by kernel_rfl) (by kernel_rfl) (fun _ _ _ h => h) (Or.inl ⟨by rfl, ?hy13⟩) (Kept.refl _ _).drew ?_
              case hy13 => (intro W hSw; (try dsimp only at hSw); go_simp; try with_reducible rfl)
              try simp only [Act.put, List.setIfInBounds_toArray, List.set_cons_zero, List.set_cons_succ]
              refine Gz.take (i := 14) (oi := { dst := some 82, op := Op.indexAddr 24 (Operand.tmp 80) (Operand.tmp 81), type := 0, pos := _, after := _, guard := some (7, false) }) (v := ?_) rfl (by kernel_rfl) (by kernel_rfl) (by kernel_rfl) (by kernel_rfl) (fun _ _ _ h => h) (Or.inl ⟨by rfl, ?hy14⟩) (Kept.refl _ _).drew ?_
              case hy14 => (intro W hSw; (try dsimp only at hSw); go_simp; try with_reducible rfl)
              try simp only [Act.put, List.setIfInBounds_toArray, List.set_cons_zero, List.set_cons_succ]
              refine Gz.take (i := 15) (oi := { dst := some 83, op := Op.load 9 (Operand.tmp 82), type := 9, pos := _, after := _, guard := some (7, false) }) (v := ?_) rfl (by kernel_rfl) (by kernel_rfl) (by kernel_rfl) (by kernel_rfl) (fun _ _ _ h => h) (Or.inl ⟨by rfl, ?hy15⟩) (Kept.refl _ _).drew ?_
              case hy15 => (intro W hSw; (try dsimp only at hSw); go_simp; try with_reducible rfl)
              try simp only [Act.put, List.setIfInBounds_toArray, List.set_cons_zero, List.set_cons_succ]
              refine Gz.take (i := 16) (oi := { dst := some 84, op := Op.binOp BinOp.eql 9 (Operand.tmp 79) (Operand.tmp 83) 9, type := 4, pos := _, after := _, guard := some (7, false) }) (v := ?_) rfl (by kernel_rfl) (by kernel_rfl) (by kernel_rfl) (by kernel_rfl) (fun _ _ _ h => h) (Or.inl ⟨by rfl, ?hy16⟩) (Kept.refl _ _).drew ?_
              case hy16 => (intro W hSw; (try dsimp only at hSw); go_simp; try with_reducible rfl)
              try simp only [Act.put, List.setIfInBounds_toArray, List.set_cons_zero, List.set_cons_succ]
              refine Gz.take (i := 17) (oi := { dst := some 85, op := Op.move (Operand.tmp 84), type := 4, pos := _, after := _, guard := some (7, false) }) (v := ?_) rfl (by kernel_rfl) (by kernel_rfl) (by kernel_rfl) (by kernel_rfl) (fun _ _ _ h => h) (Or.inl ⟨by rfl, ?hy17⟩) (Kept.refl _ _).drew ?_
              case hy17 => (intro W hSw; (try dsimp only at hSw); go_simp; try with_reducible rfl)
              try simp only [Act.put, List.setIfInBounds_toArray, List.set_cons_zero, List.set_cons_succ]
              refine Gz.take (i := 18) (oi := { dst := some 86, op := Op.move (Operand.tmp 12), type := 4, pos := _, after := _, guard := some (17, true) }) (v := undef) rfl (by kernel_rfl) (by kernel_rfl) (by kernel_rfl) (by kernel_rfl) (fun _ _ _ h => h) (Or.inr ⟨by rfl, rfl⟩) (Kept.refl _ _).drew ?_
              try simp only [Act.put, List.setIfInBounds_toArray, List.set_cons_zero, List.set_cons_succ]
              refine Gz.take (i := 19) (oi := { dst := some 87, op := Op.unOp UnOp.not 4 (Operand.tmp 86), type := 4, pos := _, after := _, guard := some (17, true) }) (v := undef) rfl (by kernel_rfl) (by kernel_rfl) (by kernel_rfl) (by kernel_rfl) (fun _ _ _ h => h) (Or.inr ⟨by rfl, rfl⟩) (Kept.refl _ _).drew ?_
              try simp only [Act.put, List.setIfInBounds_toArray, List.set_cons_zero, List.set_cons_succ]
              refine Gz.take (i := 20) (oi := { dst := some 88, op := Op.pick (Operand.tmp 85) (Operand.tmp 87) (Operand.const (Value.bool false)), type := 4, pos := _, after := _, guard := some (7, false) }) (v := ?_) rfl (by kernel_rfl) (by kernel_rfl) (by kernel_rfl) (by kernel_rfl) (fun _ _ _ h => h) (Or.inl ⟨by rfl, ?hy20⟩) (Kept.refl _ _).drew ?_
              case hy20 => (intro W hSw; (try dsimp only at hSw); go_simp; try with_reducible rfl)
              try simp only [Act.put, List.setIfInBounds_toArray, List.set_cons_zero, List.set_cons_succ]
              refine Gz.take (i := 21) (oi := { dst := some 89, op := Op.pick (Operand.tmp 75) (Operand.const (Value.bool true)) (Operand.tmp 88), type := 4, pos := _, after := _, guard := none }) (v := ?_) rfl (by kernel_rfl) (by kernel_rfl) (by kernel_rfl) (by kernel_rfl) (fun _ _ _ h => h) (Or.inl ⟨by rfl, ?hy21⟩) (Kept.refl _ _).drew ?_
              case hy21 => (intro W hSw; (try dsimp only at hSw); go_simp; try with_reducible rfl)
              try simp only [Act.put, List.setIfInBounds_toArray, List.set_cons_zero, List.set_cons_succ]
              refine Gz.done (by kernel_rfl) ?_ _
              go_wp2_with fail
              obtain ⟨w9, hw9⟩ : ∃ x, x = w8.drew := ⟨_, rfl⟩
              rw [← hw9]
              have K9 : Hid (Kept (fun _ => True) w5' w9) := by rw [hw9]; exact K7.out.drew
              have ck9 : ∀ W, Kept (fun _ => True) w9 W → W.cell? ⟨b1, o1 + k, none⟩ = some (.string ⟨tk.toArray⟩) := fun W hW => ck W (((Kept.refl _ _).drew).trans (by rw [hw9] at hW; exact hW))
              have cm9 : ∀ W, Kept (fun _ => True) w9 W → W.cell? ⟨gm, k, none⟩ = some (.string ⟨M.toArray⟩) := fun W hW => cm W (((Kept.refl _ _).drew).trans (by rw [hw9] at hW; exact hW))
              clear ck cm hw9
              refine Gz.begin (fun W => Kept (fun _ => True) w9 W) (fun _ => false) (by kernel_rfl) ?_
              refine Gz.take (i := 0) (oi := { dst := some 90, op := Op.move (Operand.tmp 11), type := 3, pos := _, after := _, guard := none }) (v := ?_) rfl (by kernel_rfl) (by kernel_rfl) (by kernel_rfl) (by kernel_rfl) (fun _ _ _ h => h) (Or.inl ⟨by rfl, ?hy0⟩) (Kept.refl _ _).drew ?_
              case hy0 => (intro W hSw; (try dsimp only at hSw); go_simp; try with_reducible rfl)
              try simp only [Act.put, List.setIfInBounds_toArray, List.set_cons_zero, List.set_cons_succ]
              refine Gz.take (i := 1) (oi := { dst := some 91, op := Op.move (Operand.tmp 8), type := 3, pos := _, after := _, guard := none }) (v := ?_) rfl (by kernel_rfl) (by kernel_rfl) (by kernel_rfl) (by kernel_rfl) (fun _ _ _ h => h) (Or.inl ⟨by rfl, ?hy1⟩) (Kept.refl _ _).drew ?_
              case hy1 => (intro W hSw; (try dsimp only at hSw); go_simp; try with_reducible rfl)
              try simp only [Act.put, List.setIfInBounds_toArray, List.set_cons_zero, List.set_cons_succ]
              refine Gz.take (i := 2) (oi := { dst := some 92, op := Op.binOp BinOp.geq 3 (Operand.tmp 90) (Operand.tmp 91) 3, type := 4, pos := _, after := _, guard := none }) (v := ?_) rfl (by kernel_rfl) (by kernel_rfl) (by kernel_rfl) (by kernel_rfl) (fun _ _ _ h => h) (Or.inl ⟨by rfl, ?hy2⟩) (Kept.refl _ _).drew ?_
              case hy2 => (intro W hSw; (try dsimp only at hSw); go_simp; try with_reducible rfl)
              try simp only [Act.put, List.setIfInBounds_toArray, List.set_cons_zero, List.set_cons_succ]
              refine Gz.take (i := 3) (oi := { dst := some 93, op := Op.move (Operand.tmp 92), type := 4, pos := _, after := _, guard := none }) (v := ?_) rfl (by kernel_rfl) (by kernel_rfl) (by kernel_rfl) (by kernel_rfl) (fun _ _ _ h => h) (Or.inl ⟨by rfl, ?hy3⟩) (Kept.refl _ _).drew ?_
              case hy3 => (intro W hSw; (try dsimp only at hSw); go_simp; try with_reducible rfl)
              try simp only [Act.put, List.setIfInBounds_toArray, List.set_cons_zero, List.set_cons_succ]
              refine Gz.take (i := 4) (oi := { dst := some 94, op := Op.move (Operand.tmp 7), type := 24, pos := _, after := _, guard := some (3, true) }) (v := ?_) rfl (by kernel_rfl) (by kernel_rfl) (by kernel_rfl) (by kernel_rfl) (fun _ _ _ h => h) (Or.inl ⟨by rfl, ?hy4⟩) (Kept.refl _ _).drew ?_
              case hy4 => (intro W hSw; (try dsimp only at hSw); go_simp; try with_reducible rfl)
              try simp only [Act.put, List.setIfInBounds_toArray, List.set_cons_zero, List.set_cons_succ]
              refine Gz.take (i := 5) (oi := { dst := some 95, op := Op.move (Operand.tmp 8), type := 3, pos := _, after := _, guard := some (3, true) }) (v := ?_) rfl (by kernel_rfl) (by kernel_rfl) (by kernel_rfl) (by kernel_rfl) (fun _ _ _ h => h) (Or.inl ⟨by rfl, ?hy5⟩) (Kept.refl _ _).drew ?_
              case hy5 => (intro W hSw; (try dsimp only at hSw); go_simp; try with_reducible rfl)
              try simp only [Act.put, List.setIfInBounds_toArray, List.set_cons_zero, List.set_cons_succ]
              refine Gz.take (i := 6) (oi := { dst := some 96, op := Op.indexAddr 24 (Operand.tmp 94) (Operand.tmp 95), type := 0, pos := _, after := _, guard := some (3, true) }) (v := ?_) rfl (by kernel_rfl) (by kernel_rfl) (by kernel_rfl) (by kernel_rfl) (fun _ _ _ h => h) (Or.inl ⟨by rfl, ?hy6⟩) (Kept.refl _ _).drew ?_
              case hy6 => (intro W hSw; (try dsimp only at hSw); go_simp; try with_reducible rfl)
              try simp only [Act.put, List.setIfInBounds_toArray, List.set_cons_zero, List.set_cons_succ]
              refine Gz.take (i := 7) (oi := { dst := some 97, op := Op.load 9 (Operand.tmp 96), type := 9, pos := _, after := _, guard := some (3, true) }) (v := ?_) rfl (by kernel_rfl) (by kernel_rfl) (by kernel_rfl) (by kernel_rfl) (fun _ _ _ h => h) (Or.inl ⟨by rfl, ?hy7⟩) (Kept.refl _ _).drew ?_
              case hy7 => (intro W hSw; (try dsimp only at hSw); go_simp; try with_reducible rfl)
              try simp only [Act.put, List.setIfInBounds_toArray, List.set_cons_zero, List.set_cons_succ]
              refine Gz.take (i := 8) (oi := { dst := some 98, op := Op.move (Operand.tmp 0), type := 24, pos := _, after := _, guard := some (3, true) }) (v := ?_) rfl (by kernel_rfl) (by kernel_rfl) (by kernel_rfl) (by kernel_rfl) (fun _ _ _ h => h) (Or.inl ⟨by rfl, ?hy8⟩) (Kept.refl _ _).drew ?_
              case hy8 => (intro W hSw; (try dsimp only at hSw); go_simp; try with_reducible rfl)
              try simp only [Act.put, List.setIfInBounds_toArray, List.set_cons_zero, List.set_cons_succ]
              refine Gz.take (i := 9) (oi := { dst := some 99, op := Op.move (Operand.tmp 8), type := 3, pos := _, after := _, guard := some (3, true) }) (v := ?_) rfl (by kernel_rfl) (by kernel_rfl) (by kernel_rfl) (by kernel_rfl) (fun _ _ _ h => h) (Or.inl ⟨by rfl, ?hy9⟩) (Kept.refl _ _).drew ?_
              case hy9 => (intro W hSw; (try dsimp only at hSw); go_simp; try with_reducible rfl)
              try simp only [Act.put, List.setIfInBounds_toArray, List.set_cons_zero, List.set_cons_succ]
              refine Gz.take (i := 10) (oi := { dst := some 100, op := Op.indexAddr 24 (Operand.tmp 98) (Operand.tmp 99), type := 0, pos := _, after := _, guard := some (3, true) }) (v := ?_) rfl (by kernel_rfl) (by kernel_rfl) (by kernel_rfl) (by kernel_rfl) (fun _ _ _ h => h) (Or.inl ⟨by rfl, ?hy10⟩) (Kept.refl _ _).drew ?_
              case hy10 => (intro W hSw; (try dsimp only at hSw); go_simp; try with_reducible rfl)
              try simp only [Act.put, List.setIfInBounds_toArray, List.set_cons_zero, List.set_cons_succ]
              refine Gz.take (i := 11) (oi := { dst := some 101, op := Op.load 9 (Operand.tmp 100), type := 9, pos := _, after := _, guard := some (3, true) }) (v := ?_) rfl (by kernel_rfl) (by kernel_rfl) (by kernel_rfl) (by kernel_rfl) (fun _ _ _ h => h) (Or.inl ⟨by rfl, ?hy11⟩) (Kept.refl _ _).drew ?_
              case hy11 => (intro W hSw; (try dsimp only at hSw); go_simp; try with_reducible rfl)
              try simp only [Act.put, List.setIfInBounds_toArray, List.set_cons_zero, List.set_cons_succ]
              refine Gz.take (i := 12) (oi := { dst := some 102, op := Op.binOp BinOp.neq 9 (Operand.tmp 97) (Operand.tmp 101) 9, type := 4, pos := _, after := _, guard := some (3, true) }) (v := ?_) rfl (by kernel_rfl) (by kernel_rfl) (by kernel_rfl) (by kernel_rfl) (fun _ _ _ h => h) (Or.inl ⟨by rfl, ?hy12⟩) (Kept.refl _ _).drew ?_
              case hy12 => (intro W hSw; (try dsimp only at hSw); go_simp; try with_reducible rfl)
              try simp only [Act.put, List.setIfInBounds_toArray, List.set_cons_zero, List.set_cons_succ]
              refine Gz.take (i := 13) (oi := { dst := some 103, op := Op.pick (Operand.tmp 93) (Operand.tmp 102) (Operand.const (Value.bool false)), type := 4, pos := _, after := _, guard := none }) (v := ?_) rfl (by kernel_rfl) (by kernel_rfl) (by kernel_rfl) (by kernel_rfl) (fun _ _ _ h => h) (Or.inl ⟨by rfl, ?hy13⟩) (Kept.refl _ _).drew ?_
              case hy13 => (intro W hSw; (try dsimp only at hSw); go_simp; try with_reducible rfl)
              try simp only [Act.put, List.setIfInBounds_toArray, List.set_cons_zero, List.set_cons_succ]
              refine Gz.take (i := 14) (oi := { dst := some 104, op := Op.move (Operand.tmp 103), type := 4, pos := _, after := _, guard := none }) (v := ?_) rfl (by kernel_rfl) (by kernel_rfl) (by kernel_rfl) (by kernel_rfl) (fun _ _ _ h => h) (Or.inl ⟨by rfl, ?hy14⟩) (Kept.refl _ _).drew ?_
              case hy14 => (intro W hSw; (try dsimp only at hSw); go_simp; try with_reducible rfl)
              try simp only [Act.put, List.setIfInBounds_toArray, List.set_cons_zero, List.set_cons_succ]
              refine Gz.take (i := 15) (oi := { dst := some 105, op := Op.move (Operand.tmp 12), type := 4, pos := _, after := _, guard := some (14, true) }) (v := ?_) rfl (by kernel_rfl) (by kernel_rfl) (by kernel_rfl) (by kernel_rfl) (fun _ _ _ h => h) (Or.inl ⟨by rfl, ?hy15⟩) (Kept.refl _ _).drew ?_
              case hy15 => (intro W hSw; (try dsimp only at hSw); go_simp; try with_reducible rfl)
              try simp only [Act.put, List.setIfInBounds_toArray, List.set_cons_zero, List.set_cons_succ]
              refine Gz.take (i := 16) (oi := { dst := some 106, op := Op.pick (Operand.tmp 104) (Operand.tmp 105) (Operand.const (Value.bool false)), type := 4, pos := _, after := _, guard := none }) (v := ?_) rfl (by kernel_rfl) (by kernel_rfl) (by kernel_rfl) (by kernel_rfl) (fun _ _ _ h => h) (Or.inl ⟨by rfl, ?hy16⟩) (Kept.refl _ _).drew ?_
              case hy16 => (intro W hSw; (try dsimp only at hSw); go_simp; try with_reducible rfl)
              try simp only [Act.put, List.setIfInBounds_toArray, List.set_cons_zero, List.set_cons_succ]
              refine Gz.done (by kernel_rfl) ?_ _
              go_wp2_with fail
              refine Calls.mono (known_any _) ?_
              rintro e w10 ⟨rfl, k10⟩
              go_wp2
              go_ret
              exact ⟨rfl, KW.out.trans (K9.out.drew.trans k10)⟩
    · have i1 : ¬ (i : Int) < (N : Int) := by omega
      obtain ⟨w6, hw6⟩ : ∃ x, x = wr := ⟨_, rfl⟩
      rw [← hw6] at kr ⊢
      clear hw6
      obtain ⟨b1, o1, rfl, hb1, hc1⟩ := T7.out (by omega)
      obtain ⟨_, _, e5, hb2, hc2⟩ := U7.out (by omega)
      injection e5 with e5
      injection e5 with e51 e52 e53
      subst e51 e52
      have ck0 := hc1 k hkT
      have cm0 := hc2 k (by omega)
      rw [hUk, Nat.zero_add] at cm0
      have HP : Hid (pre (mkC T) (mkC U) ↔ M = T[k]) := by
        show _ ↔ _
        rw [pre_same (by omega)]
        exact HUT.out.symm
      have CP0 : ∀ W, Kept (fun _ => True) w6 W → Calls Try.prog 21 #[.slice (some ⟨ga, 0, none⟩) N c9, .slice (some ⟨gb, 0, none⟩) N c10] W fun e w' => ETells (M = T[k]) W e w' := fun W hW => by
        have := prefix_any (c1 := c9) (c2 := c10) ((VA.out.all kr).all hW) ((VB.out.all kr).all hW) (by omega) (by omega) (by omega) (by omega)
        rw [lka, lkb] at this
        refine this.mono ?_
        rintro e w' ⟨b, rfl, hb, kk⟩
        exact ⟨b, rfl, hb.trans HP.out, kk⟩
      have KX : Hid (Kept (fun _ => True) w w6) := KW.out.trans kr
      generalize T[k] = tk at *
      have ck : ∀ W, Kept (fun _ => True) w6 W → W.cell? ⟨b1, o1 + k, none⟩ = some (.string ⟨tk.toArray⟩) := fun W hW => (kept_cell (kr.trans hW) hb1 trivial).trans ck0
      have cm : ∀ W, Kept (fun _ => True) w6 W → W.cell? ⟨gm, k, none⟩ = some (.string ⟨M.toArray⟩) := fun W hW => (kept_cell (kr.trans hW) hb2 trivial).trans cm0
      clear ck0 cm0 hc1 hc2 e53 kr HPRE HUT hTU hUk hb1 hb2 VA VB T7 U7 KW HP sU
      by_cases hq : M = tk
      · have CP : ∀ W, Kept (fun _ => True) w6 W → Calls Try.prog 21 #[.slice (some ⟨ga, 0, none⟩) N c9, .slice (some ⟨gb, 0, none⟩) N c10] W fun e w' => e = .returned (.bool true) ∧ Kept (fun _ => True) W w' := fun W hW => (CP0 W hW).mono (by
          rintro e w' ⟨b, rfl, hb, kk⟩
          rw [hb.2 hq]
          exact ⟨rfl, kk⟩)
        clear CP0
        subst hq
        as_aux_lemma =>
          go_wp2
          refine Gz.begin (fun W => Kept (fun _ => True) w6 W) (fun _ => false) (by kernel_rfl) ?_
          refine Gz.take (i := 0) (oi := { dst := some 108, op := Op.move (Operand.tmp 9), type := 22, pos := _, after := _, guard := none }) (v := ?_) rfl (by kernel_rfl) (by kernel_rfl) (by kernel_rfl) (by kernel_rfl) (fun _ _ _ h => h) (Or.inl ⟨by rfl, ?hy0⟩) (Kept.refl _ _).drew ?_
          case hy0 => (intro W hSw; (try dsimp only at hSw); go_simp; try with_reducible rfl)
          try simp only [Act.put, List.setIfInBounds_toArray, List.set_cons_zero, List.set_cons_succ]
          refine Gz.take (i := 1) (oi := { dst := some 109, op := Op.move (Operand.tmp 10), type := 22, pos := _, after := _, guard := none }) (v := ?_) rfl (by kernel_rfl) (by kernel_rfl) (by kernel_rfl) (by kernel_rfl) (fun _ _ _ h => h) (Or.inl ⟨by rfl, ?hy1⟩) (Kept.refl _ _).drew ?_
          case hy1 => (intro W hSw; (try dsimp only at hSw); go_simp; try with_reducible rfl)
          try simp only [Act.put, List.setIfInBounds_toArray, List.set_cons_zero, List.set_cons_succ]
          refine Gz.take (i := 3) (oi := { dst := some 111, op := Op.move (Operand.tmp 7), type := 24, pos := _, after := _, guard := none }) (v := ?_) rfl (by kernel_rfl) (by kernel_rfl) (by kernel_rfl) (by kernel_rfl) (fun _ _ _ h => h) (Or.inl ⟨by rfl, ?hy3⟩) (Kept.refl _ _).drew ?_
          case hy3 => (intro W hSw; (try dsimp only at hSw); go_simp; try with_reducible rfl)
          try simp only [Act.put, List.setIfInBounds_toArray, List.set_cons_zero, List.set_cons_succ]
          refine Gz.take (i := 4) (oi := { dst := some 112, op := Op.move (Operand.tmp 8), type := 3, pos := _, after := _, guard := none }) (v := ?_) rfl (by kernel_rfl) (by kernel_rfl) (by kernel_rfl) (by kernel_rfl) (fun _ _ _ h => h) (Or.inl ⟨by rfl, ?hy4⟩) (Kept.refl _ _).drew ?_
          case hy4 => (intro W hSw; (try dsimp only at hSw); go_simp; try with_reducible rfl)
          try simp only [Act.put, List.setIfInBounds_toArray, List.set_cons_zero, List.set_cons_succ]
          refine Gz.take (i := 5) (oi := { dst := some 113, op := Op.indexAddr 24 (Operand.tmp 111) (Operand.tmp 112), type := 0, pos := _, after := _, guard := none }) (v := ?_) rfl (by kernel_rfl) (by kernel_rfl) (by kernel_rfl) (by kernel_rfl) (fun _ _ _ h => h) (Or.inl ⟨by rfl, ?hy5⟩) (Kept.refl _ _).drew ?_
          case hy5 => (intro W hSw; (try dsimp only at hSw); go_simp; try with_reducible rfl)
          try simp only [Act.put, List.setIfInBounds_toArray, List.set_cons_zero, List.set_cons_succ]
          refine Gz.take (i := 6) (oi := { dst := some 114, op := Op.load 9 (Operand.tmp 113), type := 9, pos := _, after := _, guard := none }) (v := ?_) rfl (by kernel_rfl) (by kernel_rfl) (by kernel_rfl) (by kernel_rfl) (fun _ _ _ h => h) (Or.inl ⟨by rfl, ?hy6⟩) (Kept.refl _ _).drew ?_
          case hy6 => (intro W hSw; (try dsimp only at hSw); go_simp; try with_reducible rfl)
          try simp only [Act.put, List.setIfInBounds_toArray, List.set_cons_zero, List.set_cons_succ]
          refine Gz.take (i := 7) (oi := { dst := some 115, op := Op.move (Operand.tmp 0), type := 24, pos := _, after := _, guard := none }) (v := ?_) rfl (by kernel_rfl) (by kernel_rfl) (by kernel_rfl) (by kernel_rfl) (fun _ _ _ h => h) (Or.inl ⟨by rfl, ?hy7⟩) (Kept.refl _ _).drew ?_
          case hy7 => (intro W hSw; (try dsimp only at hSw); go_simp; try with_reducible rfl)
          try simp only [Act.put, List.setIfInBounds_toArray, List.set_cons_zero, List.set_cons_succ]
          refine Gz.take (i := 8) (oi := { dst := some 116, op := Op.move (Operand.tmp 8), type := 3, pos := _, after := _, guard := none }) (v := ?_) rfl (by kernel_rfl) (by kernel_rfl) (by kernel_rfl) (by kernel_rfl) (fun _ _ _ h => h) (Or.inl ⟨by rfl, ?hy8⟩) (Kept.refl _ _).drew ?_
          case hy8 => (intro W hSw; (try dsimp only at hSw); go_simp; try with_reducible rfl)
          try simp only [Act.put, List.setIfInBounds_toArray, List.set_cons_zero, List.set_cons_succ]
          refine Gz.take (i := 9) (oi := { dst := some 117, op := Op.indexAddr 24 (Operand.tmp 115) (Operand.tmp 116), type := 0, pos := _, after := _, guard := none }) (v := ?_) rfl (by kernel_rfl) (by kernel_rfl) (by kernel_rfl) (by kernel_rfl) (fun _ _ _ h => h) (Or.inl ⟨by rfl, ?hy9⟩) (Kept.refl _ _).drew ?_
          case hy9 => (intro W hSw; (try dsimp only at hSw); go_simp; try with_reducible rfl)
          try simp only [Act.put, List.setIfInBounds_toArray, List.set_cons_zero, List.set_cons_succ]
          refine Gz.take (i := 10) (oi := { dst := some 118, op := Op.load 9 (Operand.tmp 117), type := 9, pos := _, after := _, guard := none }) (v := ?_) rfl (by kernel_rfl) (by kernel_rfl) (by kernel_rfl) (by kernel_rfl) (fun _ _ _ h => h) (Or.inl ⟨by rfl, ?hy10⟩) (Kept.refl _ _).drew ?_
          case hy10 => (intro W hSw; (try dsimp only at hSw); go_simp; try with_reducible rfl)
          try simp only [Act.put, List.setIfInBounds_toArray, List.set_cons_zero, List.set_cons_succ]
          refine Gz.take (i := 11) (oi := { dst := some 119, op := Op.binOp BinOp.eql 9 (Operand.tmp 114) (Operand.tmp 118) 9, type := 4, pos := _, after := _, guard := none }) (v := ?_) rfl (by kernel_rfl) (by kernel_rfl) (by kernel_rfl) (by kernel_rfl) (fun _ _ _ h => h) (Or.inl ⟨by rfl, ?hy11⟩) (Kept.refl _ _).drew ?_
          case hy11 => (intro W hSw; (try dsimp only at hSw); go_simp; try with_reducible rfl)
          try simp only [Act.put, List.setIfInBounds_toArray, List.set_cons_zero, List.set_cons_succ]
          refine Gz.one (i := 2) (o := { dst := some 110, op := Op.call { callee := Callee.value (Operand.func 21), args := #[Operand.tmp 108, Operand.tmp 109], argTypes := #[22, 22] }, type := 4, pos := _, after := _, guard := none }) (by kernel_rfl) rfl (fun K hK => ?_)
          go_simp
          with_reducible refine Calls.mono (CP w6.drew (Kept.refl _ _).drew) ?_
          rintro e w8 ⟨rfl, k8⟩
          have s8 : Kept (fun _ => True) w6 w8 := (Kept.refl _ _).drew.trans k8
          try go_wp2_with fail
          refine hK.out _ _ (fun _ => s8) ?_
          clear hK K
          try simp only [Act.put, List.setIfInBounds_toArray, List.set_cons_zero, List.set_cons_succ]
          refine Gz.to (S' := fun W => Kept (fun _ => True) w8 W) (fun W q => s8.trans q) _ _ _ _ ?_
          refine Gz.take (i := 12) (oi := { dst := some 120, op := Op.binOp BinOp.eql 4 (Operand.tmp 110) (Operand.tmp 119) 4, type := 4, pos := _, after := _, guard := none }) (v := ?_) rfl (by kernel_rfl) (by kernel_rfl) (by kernel_rfl) (by kernel_rfl) (fun _ _ _ h => h) (Or.inl ⟨by rfl, ?hy12⟩) (Kept.refl _ _) ?_
          case hy12 => (intro W hSw; (try dsimp only at hSw); go_simp; try with_reducible rfl)
          try simp only [Act.put, List.setIfInBounds_toArray, List.set_cons_zero, List.set_cons_succ]
          refine Gz.take (i := 13) (oi := { dst := some 121, op := Op.move (Operand.tmp 120), type := 4, pos := _, after := _, guard := none }) (v := ?_) rfl (by kernel_rfl) (by kernel_rfl) (by kernel_rfl) (by kernel_rfl) (fun _ _ _ h => h) (Or.inl ⟨by rfl, ?hy13⟩) (Kept.refl _ _) ?_
          case hy13 => (intro W hSw; (try dsimp only at hSw); go_simp; try with_reducible rfl)
          try simp only [Act.put, List.setIfInBounds_toArray, List.set_cons_zero, List.set_cons_succ]
          refine Gz.one (i := 14) (o := { dst := some 122, op := Op.call { callee := Callee.value (Operand.func 14), args := #[], argTypes := #[] }, type := 4, pos := _, after := _, guard := some (13, true) }) (by kernel_rfl) rfl (fun K hK => ?_)
          go_simp
          with_reducible refine Calls.mono (known_any _) ?_
          rintro e w9 ⟨rfl, k9⟩
          try go_wp2_with fail
          refine hK.out _ _ (fun _ => k9) ?_
          clear hK K
          try simp only [Act.put, List.setIfInBounds_toArray, List.set_cons_zero, List.set_cons_succ]
          refine Gz.to (S' := fun W => Kept (fun _ => True) w9 W) (fun W q => k9.trans q) _ _ _ _ ?_
          refine Gz.take (i := 15) (oi := { dst := some 123, op := Op.pick (Operand.tmp 121) (Operand.tmp 122) (Operand.const (Value.bool false)), type := 4, pos := _, after := _, guard := none }) (v := ?_) rfl (by kernel_rfl) (by kernel_rfl) (by kernel_rfl) (by kernel_rfl) (fun _ _ _ h => h) (Or.inl ⟨by rfl, ?hy15⟩) (Kept.refl _ _) ?_
          case hy15 => (intro W hSw; (try dsimp only at hSw); go_simp; try with_reducible rfl)
          try simp only [Act.put, List.setIfInBounds_toArray, List.set_cons_zero, List.set_cons_succ]
          refine Gz.take (i := 16) (oi := { dst := some 6, op := Op.assign (Operand.tmp 123), type := 4, pos := _, after := _, guard := none }) (v := ?_) rfl (by kernel_rfl) (by kernel_rfl) (by kernel_rfl) (by kernel_rfl) (fun _ _ _ h => h) (Or.inl ⟨by rfl, ?hy16⟩) (Kept.refl _ _) ?_
          case hy16 => (intro W hSw; (try dsimp only at hSw); go_simp; try with_reducible rfl)
          try simp only [Act.put, List.setIfInBounds_toArray, List.set_cons_zero, List.set_cons_succ]
          refine Gz.done (by kernel_rfl) ?_ _
          go_wp2_with fail
          go_ret
          exact ⟨rfl, KX.out.trans (s8.trans k9)⟩
      · have CP : ∀ W, Kept (fun _ => True) w6 W → Calls Try.prog 21 #[.slice (some ⟨ga, 0, none⟩) N c9, .slice (some ⟨gb, 0, none⟩) N c10] W fun e w' => e = .returned (.bool false) ∧ Kept (fun _ => True) W w' := fun W hW => (CP0 W hW).mono (by
          rintro e w' ⟨b, rfl, hb, kk⟩
          have hb' : b = false := by
            cases b with
            | false => rfl
            | true => exact absurd (hb.1 rfl) hq
          rw [hb']
          exact ⟨rfl, kk⟩)
        have hne : (M == tk) = false := beq_eq_false_iff_ne.2 hq
        clear CP0 hq
        as_aux_lemma =>
          go_wp2
          refine Gz.begin (fun W => Kept (fun _ => True) w6 W) (fun _ => false) (by kernel_rfl) ?_
          refine Gz.take (i := 0) (oi := { dst := some 108, op := Op.move (Operand.tmp 9), type := 22, pos := _, after := _, guard := none }) (v := ?_) rfl (by kernel_rfl) (by kernel_rfl) (by kernel_rfl) (by kernel_rfl) (fun _ _ _ h => h) (Or.inl ⟨by rfl, ?hy0⟩) (Kept.refl _ _).drew ?_
          case hy0 => (intro W hSw; (try dsimp only at hSw); go_simp; try with_reducible rfl)
          try simp only [Act.put, List.setIfInBounds_toArray, List.set_cons_zero, List.set_cons_succ]
          refine Gz.take (i := 1) (oi := { dst := some 109, op := Op.move (Operand.tmp 10), type := 22, pos := _, after := _, guard := none }) (v := ?_) rfl (by kernel_rfl) (by kernel_rfl) (by kernel_rfl) (by kernel_rfl) (fun _ _ _ h => h) (Or.inl ⟨by rfl, ?hy1⟩) (Kept.refl _ _).drew ?_
          case hy1 => (intro W hSw; (try dsimp only at hSw); go_simp; try with_reducible rfl)
          try simp only [Act.put, List.setIfInBounds_toArray, List.set_cons_zero, List.set_cons_succ]
          refine Gz.take (i := 3) (oi := { dst := some 111, op := Op.move (Operand.tmp 7), type := 24, pos := _, after := _, guard := none }) (v := ?_) rfl (by kernel_rfl) (by kernel_rfl) (by kernel_rfl) (by kernel_rfl) (fun _ _ _ h => h) (Or.inl ⟨by rfl, ?hy3⟩) (Kept.refl _ _).drew ?_
          case hy3 => (intro W hSw; (try dsimp only at hSw); go_simp; try with_reducible rfl)
          try simp only [Act.put, List.setIfInBounds_toArray, List.set_cons_zero, List.set_cons_succ]
          refine Gz.take (i := 4) (oi := { dst := some 112, op := Op.move (Operand.tmp 8), type := 3, pos := _, after := _, guard := none }) (v := ?_) rfl (by kernel_rfl) (by kernel_rfl) (by kernel_rfl) (by kernel_rfl) (fun _ _ _ h => h) (Or.inl ⟨by rfl, ?hy4⟩) (Kept.refl _ _).drew ?_
          case hy4 => (intro W hSw; (try dsimp only at hSw); go_simp; try with_reducible rfl)
          try simp only [Act.put, List.setIfInBounds_toArray, List.set_cons_zero, List.set_cons_succ]
          refine Gz.take (i := 5) (oi := { dst := some 113, op := Op.indexAddr 24 (Operand.tmp 111) (Operand.tmp 112), type := 0, pos := _, after := _, guard := none }) (v := ?_) rfl (by kernel_rfl) (by kernel_rfl) (by kernel_rfl) (by kernel_rfl) (fun _ _ _ h => h) (Or.inl ⟨by rfl, ?hy5⟩) (Kept.refl _ _).drew ?_
          case hy5 => (intro W hSw; (try dsimp only at hSw); go_simp; try with_reducible rfl)
          try simp only [Act.put, List.setIfInBounds_toArray, List.set_cons_zero, List.set_cons_succ]
          refine Gz.take (i := 6) (oi := { dst := some 114, op := Op.load 9 (Operand.tmp 113), type := 9, pos := _, after := _, guard := none }) (v := ?_) rfl (by kernel_rfl) (by kernel_rfl) (by kernel_rfl) (by kernel_rfl) (fun _ _ _ h => h) (Or.inl ⟨by rfl, ?hy6⟩) (Kept.refl _ _).drew ?_
          case hy6 => (intro W hSw; (try dsimp only at hSw); go_simp; try with_reducible rfl)
          try simp only [Act.put, List.setIfInBounds_toArray, List.set_cons_zero, List.set_cons_succ]
          refine Gz.take (i := 7) (oi := { dst := some 115, op := Op.move (Operand.tmp 0), type := 24, pos := _, after := _, guard := none }) (v := ?_) rfl (by kernel_rfl) (by kernel_rfl) (by kernel_rfl) (by kernel_rfl) (fun _ _ _ h => h) (Or.inl ⟨by rfl, ?hy7⟩) (Kept.refl _ _).drew ?_
          case hy7 => (intro W hSw; (try dsimp only at hSw); go_simp; try with_reducible rfl)
          try simp only [Act.put, List.setIfInBounds_toArray, List.set_cons_zero, List.set_cons_succ]
          refine Gz.take (i := 8) (oi := { dst := some 116, op := Op.move (Operand.tmp 8), type := 3, pos := _, after := _, guard := none }) (v := ?_) rfl (by kernel_rfl) (by kernel_rfl) (by kernel_rfl) (by kernel_rfl) (fun _ _ _ h => h) (Or.inl ⟨by rfl, ?hy8⟩) (Kept.refl _ _).drew ?_
          case hy8 => (intro W hSw; (try dsimp only at hSw); go_simp; try with_reducible rfl)
          try simp only [Act.put, List.setIfInBounds_toArray, List.set_cons_zero, List.set_cons_succ]
          refine Gz.take (i := 9) (oi := { dst := some 117, op := Op.indexAddr 24 (Operand.tmp 115) (Operand.tmp 116), type := 0, pos := _, after := _, guard := none }) (v := ?_) rfl (by kernel_rfl) (by kernel_rfl) (by kernel_rfl) (by kernel_rfl) (fun _ _ _ h => h) (Or.inl ⟨by rfl, ?hy9⟩) (Kept.refl _ _).drew ?_
          case hy9 => (intro W hSw; (try dsimp only at hSw); go_simp; try with_reducible rfl)
          try simp only [Act.put, List.setIfInBounds_toArray, List.set_cons_zero, List.set_cons_succ]
          refine Gz.take (i := 10) (oi := { dst := some 118, op := Op.load 9 (Operand.tmp 117), type := 9, pos := _, after := _, guard := none }) (v := ?_) rfl (by kernel_rfl) (by kernel_rfl) (by kernel_rfl) (by kernel_rfl) (fun _ _ _ h => h) (Or.inl ⟨by rfl, ?hy10⟩) (Kept.refl _ _).drew ?_
          case hy10 => (intro W hSw; (try dsimp only at hSw); go_simp; try with_reducible rfl)
          try simp only [Act.put, List.setIfInBounds_toArray, List.set_cons_zero, List.set_cons_succ]
          refine Gz.take (i := 11) (oi := { dst := some 119, op := Op.binOp BinOp.eql 9 (Operand.tmp 114) (Operand.tmp 118) 9, type := 4, pos := _, after := _, guard := none }) (v := ?_) rfl (by kernel_rfl) (by kernel_rfl) (by kernel_rfl) (by kernel_rfl) (fun _ _ _ h => h) (Or.inl ⟨by rfl, ?hy11⟩) (Kept.refl _ _).drew ?_
          case hy11 => (intro W hSw; (try dsimp only at hSw); go_simp; try with_reducible rfl)
          try simp only [Act.put, List.setIfInBounds_toArray, List.set_cons_zero, List.set_cons_succ]
          refine Gz.one (i := 2) (o := { dst := some 110, op := Op.call { callee := Callee.value (Operand.func 21), args := #[Operand.tmp 108, Operand.tmp 109], argTypes := #[22, 22] }, type := 4, pos := _, after := _, guard := none }) (by kernel_rfl) rfl (fun K hK => ?_)
          go_simp
          with_reducible refine Calls.mono (CP w6.drew (Kept.refl _ _).drew) ?_
          rintro e w8 ⟨rfl, k8⟩
          have s8 : Kept (fun _ => True) w6 w8 := (Kept.refl _ _).drew.trans k8
          try go_wp2_with fail
          refine hK.out _ _ (fun _ => s8) ?_
          clear hK K
          try simp only [Act.put, List.setIfInBounds_toArray, List.set_cons_zero, List.set_cons_succ]
          refine Gz.to (S' := fun W => Kept (fun _ => True) w8 W) (fun W q => s8.trans q) _ _ _ _ ?_
          refine Gz.take (i := 12) (oi := { dst := some 120, op := Op.binOp BinOp.eql 4 (Operand.tmp 110) (Operand.tmp 119) 4, type := 4, pos := _, after := _, guard := none }) (v := ?_) rfl (by kernel_rfl) (by kernel_rfl) (by kernel_rfl) (by kernel_rfl) (fun _ _ _ h => h) (Or.inl ⟨by rfl, ?hy12⟩) (Kept.refl _ _) ?_
          case hy12 => (intro W hSw; (try dsimp only at hSw); go_simp; try with_reducible rfl)
          try simp only [Act.put, List.setIfInBounds_toArray, List.set_cons_zero, List.set_cons_succ]
          refine Gz.take (i := 13) (oi := { dst := some 121, op := Op.move (Operand.tmp 120), type := 4, pos := _, after := _, guard := none }) (v := ?_) rfl (by kernel_rfl) (by kernel_rfl) (by kernel_rfl) (by kernel_rfl) (fun _ _ _ h => h) (Or.inl ⟨by rfl, ?hy13⟩) (Kept.refl _ _) ?_
          case hy13 => (intro W hSw; (try dsimp only at hSw); go_simp; try with_reducible rfl)
          try simp only [Act.put, List.setIfInBounds_toArray, List.set_cons_zero, List.set_cons_succ]
          refine Gz.one (i := 14) (o := { dst := some 122, op := Op.call { callee := Callee.value (Operand.func 14), args := #[], argTypes := #[] }, type := 4, pos := _, after := _, guard := some (13, true) }) (by kernel_rfl) rfl (fun K hK => ?_)
          go_simp
          with_reducible refine Calls.mono (known_any _) ?_
          rintro e w9 ⟨rfl, k9⟩
          try go_wp2_with fail
          refine hK.out _ _ (fun _ => k9) ?_
          clear hK K
          try simp only [Act.put, List.setIfInBounds_toArray, List.set_cons_zero, List.set_cons_succ]
          refine Gz.to (S' := fun W => Kept (fun _ => True) w9 W) (fun W q => k9.trans q) _ _ _ _ ?_
          refine Gz.take (i := 15) (oi := { dst := some 123, op := Op.pick (Operand.tmp 121) (Operand.tmp 122) (Operand.const (Value.bool false)), type := 4, pos := _, after := _, guard := none }) (v := ?_) rfl (by kernel_rfl) (by kernel_rfl) (by kernel_rfl) (by kernel_rfl) (fun _ _ _ h => h) (Or.inl ⟨by rfl, ?hy15⟩) (Kept.refl _ _) ?_
          case hy15 => (intro W hSw; (try dsimp only at hSw); go_simp; try with_reducible rfl)
          try simp only [Act.put, List.setIfInBounds_toArray, List.set_cons_zero, List.set_cons_succ]
          refine Gz.take (i := 16) (oi := { dst := some 6, op := Op.assign (Operand.tmp 123), type := 4, pos := _, after := _, guard := none }) (v := ?_) rfl (by kernel_rfl) (by kernel_rfl) (by kernel_rfl) (by kernel_rfl) (fun _ _ _ h => h) (Or.inl ⟨by rfl, ?hy16⟩) (Kept.refl _ _) ?_
          case hy16 => (intro W hSw; (try dsimp only at hSw); go_simp; try with_reducible rfl)
          try simp only [Act.put, List.setIfInBounds_toArray, List.set_cons_zero, List.set_cons_succ]
          refine Gz.done (by kernel_rfl) ?_ _
          go_wp2_with fail
          go_ret
          exact ⟨rfl, KX.out.trans (s8.trans k9)⟩

end Go.Proofs.Ytciecjnmiacmeaa
