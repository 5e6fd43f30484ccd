/-
  LocksReaders: its walk.
-/
import Derived.Test.YtkinpgkckbocpaaKRd
import Derived.Deep.CutRange
namespace Go.Proofs.Ytkinpgkckbocpaa
open Go.RowKit

theorem wrapK32 (s : Nat) (h : s ≤ 1000) : IntKind.i32.wrap (97 + (s : Int)) = 97 + (s : Int) := by
  simp [IntKind.wrap, IntKind.bits, IntKind.signed]
  omega
theorem wrapK64 (s : Nat) (h : s ≤ 1000) : IntKind.i64.wrap (97 + (s : Int)) = 97 + (s : Int) := by
  simp [IntKind.wrap, IntKind.bits, IntKind.signed]
  omega
/-- What a number that came in is turned into. -/
theorem fold_rem (z : Int) (h1 : -9223372036854775808 ≤ z) (h2 : z ≤ 9223372036854775807) (k : Nat) (hk : 0 < k) : ∃ (Z : Int) (q : Nat), Hid (Z = if z < 0 then -(z + 1) else z) ∧ Z.tmod (k : Int) = (q : Int) ∧ q < k := by
  obtain ⟨m, hm⟩ : ∃ m : Nat, (if z < 0 then -(z + 1) else z) = (m : Int) := by
    refine ⟨(if z < 0 then -(z + 1) else z).toNat, ?_⟩
    split <;> omega
  exact ⟨_, m % k, rfl, by rw [hm]; exact Int.ofNat_tmod m k, Nat.mod_lt _ hk⟩

set_option maxRecDepth 100000 in
set_option maxHeartbeats 4000000 in
theorem locksReaders_any {w : World} (n gone : Int) (h1 : -9223372036854775808 ≤ n ∧ n ≤ 9223372036854775807) (h2 : -9223372036854775808 ≤ gone ∧ gone ≤ 9223372036854775807) :
    Calls Try.prog 6 #[.int .i64 n, .int .i64 gone] w fun e w' => e = .returned (.bool true) ∧ Kept (fun _ => True) w w' := by
  obtain ⟨ru, ty, hty⟩ := tys_some
  have HTY : Hid (Tys ru ty) := hty
  clear hty
  obtain ⟨Z, q, hZ, hq, hq8⟩ := fold_rem n h1.1 h1.2 10 (by decide)
  obtain ⟨N, hN⟩ : ∃ N, N = q + 1 := ⟨_, rfl⟩
  obtain ⟨Y, G, hY, hG, hG8⟩ := fold_rem gone h2.1 h2.2 (N + 1) (by omega)
  have cn := new_tm (w := w)
  go_enter Try.func6, Try.ntmps6
  go_wp2_with fail
  refine Calls.mono cn ?_
  rintro e w1 ⟨T, B, rfl, t1⟩
  clear cn
  have HT1 : Hid (TM w w1 T 0 B (fun _ _ => none)) := t1
  clear t1
  obtain ⟨h11, h12⟩ := h1
  obtain ⟨h21, h22⟩ := h2
  go_upto_if 16 with fail
  go_cut [0] from 15 to 19 (fun s wx => s = .int .i64 Z ∧ w1 = wx)
  case first =>
    by_cases hneg : n < 0
    · have e1 : IntKind.i64.wrap (n + 1) = n + 1 := by simp [IntKind.wrap, IntKind.bits, IntKind.signed]; omega
      have e2 : IntKind.i64.wrap (-(n + 1)) = -(n + 1) := by simp [IntKind.wrap, IntKind.bits, IntKind.signed]; omega
      go_wp2_with fail
      go_meet
      exact ⟨by rw [hZ.out, if_pos hneg], rfl⟩
    · go_wp2_with fail
      go_meet
      exact ⟨by rw [hZ.out, if_neg (by omega)], rfl⟩
  case rest =>
  obtain ⟨rfl, rfl⟩ := hcut
  clear hZ h11 h12
  have wq : IntKind.i64.wrap (q : Int) = (q : Int) := by simp [IntKind.wrap, IntKind.bits, IntKind.signed]; omega
  have wq1 : IntKind.i64.wrap (1 + (q : Int)) = (N : Int) := by simp [IntKind.wrap, IntKind.bits, IntKind.signed]; omega
  have hG' : Y.tmod ((N : Int) + 1) = (G : Int) := by simpa using hG
  have wn1 : IntKind.i64.wrap ((N : Int) + 1) = (N : Int) + 1 := by simp [IntKind.wrap, IntKind.bits, IntKind.signed]; omega
  have wg : IntKind.i64.wrap (G : Int) = (G : Int) := by simp [IntKind.wrap, IntKind.bits, IntKind.signed]; omega
  have hN1 : 1 ≤ N := by omega
  have hN10 : N ≤ 10 := by omega
  have hGN : G ≤ N := by omega
  change Z.tmod 10 = (q : Int) at hq
  clear hN hG8 hq8 hG
  go_upto_if 24 with fail
  go_cut [1] from 23 to 27 (fun s wx => s = .int .i64 Y ∧ w1 = wx)
  case first =>
    by_cases hneg : gone < 0
    · have e1 : IntKind.i64.wrap (gone + 1) = gone + 1 := by simp [IntKind.wrap, IntKind.bits, IntKind.signed]; omega
      have e2 : IntKind.i64.wrap (-(gone + 1)) = -(gone + 1) := by simp [IntKind.wrap, IntKind.bits, IntKind.signed]; omega
      go_wp2_with fail
      go_meet
      exact ⟨by rw [hY.out, if_pos hneg], rfl⟩
    · go_wp2_with fail
      go_meet
      exact ⟨by rw [hY.out, if_neg (by omega)], rfl⟩
  case rest =>
  obtain ⟨rfl, rfl⟩ := hcut
  clear hY h21 h22 hq wq wq1
  go_wp2_with fail
  clear hG' wn1 wg
  go_loopw [6] (fun t6 wr => ∃ (i : Nat) (B' : Lab → Option Nat), i ≤ N ∧ t6 = .int .i64 (i : Nat) ∧ TM w wr T i B' (rdH ty 0 i)) (fun t6 _ => N - (intOf t6).toNat)
  case atStart =>
    refine ⟨0, B, Nat.zero_le _, rfl, ?_⟩
    rw [rd_zero]
    exact HT1.out
  case round =>
    obtain ⟨i, B', hi, rfl, ht⟩ := hrel
    by_cases hlt : i < N
    · have i1 : (i : Int) < (N : Int) := by omega
      have x1 := wrapK64 i (by omega)
      have x2 := wrapK32 i (by omega)
      have x3 := HTY.out.conv i (by omega)
      have x4 := HTY.out.plus i (by omega)
      have a1 := ht.all (w' := wr.alloc (.cells #[.string ⟨#[120]⟩, .bool false] 27)) ((Kept.refl _ _).alloc _)
      have ct := take_tm a1 (HTY.out.short i (by omega)) (Wn.one (cap := 1) (c := [120]) (wt := false) (heap_alloc_new wr _)) (by simp) (by simp; omega)
      clear ht a1
      go_wp2_with fail
      refine Calls.mono ct ?_
      rintro e w2 ⟨r, h', B2, rfl, hT, t2, -⟩
      clear ct
      obtain ⟨rfl, rfl⟩ := hT.ok (HTY.out.some i (by omega)) (rd_read _ _ _)
      rw [rd_give] at t2
      clear hT
      have H2 : Hid (TM w w2 T (i + 1) B2 (rdH ty 0 (i + 1))) := t2
      clear t2
      go_wp2_with fail
      go_roundw
      case rel => exact ⟨i + 1, B2, by omega, by go_num, H2.out⟩
      case measure => simp [intOf]; omega
    · have i1 : ¬ (i : Int) < (N : Int) := by omega
      obtain rfl : i = N := by omega
      have H2 : Hid (TM w wr T i B' (rdH ty 0 i)) := ht
      clear ht HT1
      go_wp2_with fail
      generalize wr = w2 at *
      go_loopw [7] (fun t7 wr => ∃ (j : Nat) (B' : Lab → Option Nat), j ≤ G ∧ t7 = .int .i64 (j : Nat) ∧ TM w wr T i B' (rdH ty j i)) (fun t7 _ => G - (intOf t7).toNat)
      case atStart => exact ⟨0, B', Nat.zero_le _, rfl, H2.out⟩
      case round =>
        obtain ⟨j, B3, hj, rfl, ht⟩ := hrel
        by_cases hlt : j < G
        · have j1 : (j : Int) < (G : Int) := by omega
          have x1 := wrapK64 j (by omega)
          have x2 := wrapK32 j (by omega)
          have x3 := HTY.out.conv j (by omega)
          have x4 := HTY.out.plus j (by omega)
          have cf := free_tm ht (HTY.out.short j (by omega)) (by omega)
          clear ht
          go_wp2_with fail
          refine Calls.mono cf ?_
          rintro e w3 ⟨q, B4, rfl, hq, t3, -⟩
          clear cf
          obtain rfl : q = true := hq.2 (rd_some (by omega))
          rw [rd_freed HTY.out (by omega) hN10] at t3
          have H3 : Hid (TM w w3 T i B4 (rdH ty (j + 1) i)) := t3
          clear hq t3
          go_wp2_with fail
          go_roundw
          case rel => exact ⟨j + 1, B4, by omega, by go_num, H3.out⟩
          case measure => simp [intOf]; omega
        · have j1 : ¬ (j : Int) < (G : Int) := by omega
          obtain rfl : j = G := by omega
          obtain ⟨L, hL⟩ : ∃ L, L = i - j := ⟨_, rfl⟩
          obtain ⟨M, hM⟩ : ∃ M, M = i - 1 := ⟨_, rfl⟩
          have y1 : (i : Int) - (j : Int) = (L : Int) := by omega
          have y2 := wrapK64 i (by omega)
          have y3 : 97 + (i : Int) - 1 = 97 + (M : Int) := by omega
          have y4 := wrapK64 M (by omega)
          have y5 : IntKind.i64.wrap (L : Int) = (L : Int) := by simp [IntKind.wrap, IntKind.bits, IntKind.signed]; omega
          have x2 := wrapK32 M (by omega)
          have x3 := HTY.out.conv M (by omega)
          have x4 := HTY.out.plus M (by omega)
          have HLM : Hid (L = i - j ∧ M = i - 1 ∧ j ≤ i) := ⟨hL, hM, hGN⟩
          have a1 := ht.all (w' := wr.alloc (.cells #[.string ⟨#[120]⟩, .bool true] 27)) ((Kept.refl _ _).alloc _)
          have ct := take_tm a1 (x := [119]) (by decide) (Wn.one (cap := 1) (c := [120]) (wt := true) (heap_alloc_new wr _)) (by simp) (by simp; omega)
          clear ht a1 H2 hL hM
          go_wp2_with fail
          refine Calls.mono ct ?_
          rintro e w3 ⟨r, h', B4, rfl, hT, t3, -⟩
          clear ct x2 x3 x4 y1 y2 y3 y4 y5
          by_cases hl0 : L = 0
          · obtain ⟨rfl, rfl⟩ := hT.ok (by decide) (by
              rw [rd_over (by have := HLM.out; omega)]
              exact fun z _ => not_ill_free (fun _ _ => rfl) _)
            rw [rd_over (by have := HLM.out; omega)] at t3
            have HT3 : Hid (TM w w3 T (i + 1) B4 (gives (fun _ _ => none) [119] [([120], true)])) := t3
            have ch := holders_any HT3.out.tb (c := [120]) (by decide) (by omega)
            subst hl0
            clear hT t3
            go_wp2_with fail
            refine Calls.mono ch ?_
            rintro e w4 ⟨v, us, rfl, -, hul, xt, k4⟩
            clear ch
            obtain ⟨ao, cap, rfl, -, -⟩ := xt.shape
            have a4 := (HT3.out.all k4).all (w' := w4.alloc (.cells #[.string ⟨#[120]⟩, .bool false] 27)) ((Kept.refl _ _).alloc _)
            have c5 := take_tm a4 (HTY.out.short M (by have := HLM.out; omega)) (Wn.one (cap := 1) (c := [120]) (wt := false) (heap_alloc_new w4 _)) (by simp) (by simp; omega)
            have HNW : Hid (ty M ≠ [119] ∧ ty M ≠ []) := ⟨HTY.out.notW M (by have := HLM.out; omega), HTY.out.some M (by have := HLM.out; omega)⟩
            clear xt k4 a4
            by_cases hu : us.length = 0
            · have hu1 : ((us.length : Int) != 0) = false := by rw [hu]; rfl
              go_wp2_with fail
              refine Calls.mono c5 ?_
              rintro e w5 ⟨r, h', B5, rfl, hT5, t5, -⟩
              clear c5
              obtain ⟨rfl, -⟩ := hT5.busy HNW.out.2 (rd_w _ HNW.out.1)
              have HK : Hid (Kept (fun _ => True) w w5) := t5.kept
              have ck := known_any (w := w5)
              clear hT5 t5
              go_wp2_with fail
              refine Calls.mono ck ?_
              rintro e w6 ⟨rfl, k6⟩
              clear ck
              go_wp2_with fail
              go_ret
              exact ⟨rfl, HK.out.trans k6⟩
            · have hu1 : ((us.length : Int) != 0) = true := by rw [bne_iff_ne]; omega
              go_wp2_with fail
              refine Calls.mono c5 ?_
              rintro e w5 ⟨r, h', B5, rfl, hT5, t5, -⟩
              clear c5
              obtain ⟨rfl, -⟩ := hT5.busy HNW.out.2 (rd_w _ HNW.out.1)
              have HK : Hid (Kept (fun _ => True) w w5) := t5.kept
              have ck := known_any (w := w5)
              clear hT5 t5
              go_wp2_with fail
              refine Calls.mono ck ?_
              rintro e w6 ⟨rfl, k6⟩
              clear ck
              go_wp2_with fail
              go_ret
              exact ⟨rfl, HK.out.trans k6⟩
          · obtain ⟨rfl, rfl⟩ := hT.busy (by decide) (rd_ill HTY.out (by have := HLM.out; omega) hN10)
            have HT3 : Hid (TM w w3 T (i + 1) B4 (rdH ty j i)) := t3
            have ch := holders_any HT3.out.tb (c := [120]) (by decide) (by omega)
            have l0 : ((L : Int) == 0) = false := by simp; omega
            have l1 : (0 : Int) < (L : Int) := by omega
            clear hT t3
            go_wp2_with fail
            refine Calls.mono ch ?_
            rintro e w4 ⟨v, us, rfl, hus, hul, xt, k4⟩
            clear ch
            obtain ⟨ao, cap, rfl, -, -⟩ := xt.shape
            have hu : us.length = L := by rw [rd_len HTY.out hN10 hus]; exact HLM.out.1.symm
            rw [hu]
            have hu1 : ((L : Int) != (L : Int)) = false := by simp
            have a4 := (HT3.out.all k4).all (w' := w4.alloc (.cells #[.string ⟨#[120]⟩, .bool true] 27)) ((Kept.refl _ _).alloc _)
            have c5 := take_tm a4 (HTY.out.short M (by have := HLM.out; omega)) (Wn.one (cap := 1) (c := [120]) (wt := true) (heap_alloc_new w4 _)) (by simp) (by simp; omega)
            have HNW : Hid (ty M ≠ []) := HTY.out.some M (by have := HLM.out; omega)
            clear xt k4 a4 hus hul hu
            go_wp2_with fail
            refine Calls.mono c5 ?_
            rintro e w5 ⟨r, h', B5, rfl, hT5, t5, -⟩
            clear c5
            have HK : Hid (Kept (fun _ => True) w w5) := t5.kept
            have ck := known_any (w := w5)
            obtain ⟨e1, e2, e3⟩ := HLM.out
            by_cases hL1 : L = 1
            · obtain ⟨rfl, -⟩ := hT5.ok HNW.out (by rw [e2]; exact rd_last (by omega))
              have l2 : ((L : Int) == 1) = true := by simp; omega
              clear hT5 t5 e1 e2 e3
              go_wp2_with fail
              refine Calls.mono ck ?_
              rintro e w6 ⟨rfl, k6⟩
              clear ck
              go_wp2_with fail
              go_ret
              exact ⟨rfl, HK.out.trans k6⟩
            · obtain ⟨rfl, -⟩ := hT5.busy HNW.out (by rw [e2]; exact rd_two HTY.out (by omega) hN10)
              have l2 : ((L : Int) == 1) = false := by simp; omega
              clear hT5 t5 e1 e2 e3
              go_wp2_with fail
              refine Calls.mono ck ?_
              rintro e w6 ⟨rfl, k6⟩
              clear ck
              go_wp2_with fail
              go_ret
              exact ⟨rfl, HK.out.trans k6⟩

end Go.Proofs.Ytkinpgkckbocpaa
