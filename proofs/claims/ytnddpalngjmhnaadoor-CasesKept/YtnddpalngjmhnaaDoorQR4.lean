/-
  The document's Check, its walk.
-/
import Derived.Test.YtnddpalngjmhnaaDoorQR3
namespace Go.Proofs.YtnddpalngjmhnaaDoor
open Go.RowKit

/-- The row of what is open, in memory order; the innermost last. -/
theorem drop_last {S : List Nat} {k : Nat} {t : List Nat} (h : S = k :: t) : S.reverse.dropLast = t.reverse ∧ S.reverse.length = t.length + 1 ∧ ∀ hk : t.length < S.reverse.length, S.reverse[t.length] = k := by
  subst h
  refine ⟨by simp, by simp, fun hk => ?_⟩
  simp

/-- How long a slice is. -/
def lenOf : Value → Nat
  | .slice _ n _ => n
  | _ => 0

set_option maxRecDepth 100000 in
set_option maxHeartbeats 4000000 in
theorem rcheck_any {w : World} {v : Value} {ns : List (List UInt8)} (h : Ns w v ns) (s : List UInt8) (hs0 : s.length ≤ 281474976710656) :
    Calls Tryd.prog 61 #[.string ⟨s.toArray⟩, v] w fun e w' => e = .returned (.tuple #[.int .i64 ((chk ns s).1 : Nat), .int .i64 ((chk ns s).2 : Nat)]) ∧ Kept (fun _ => True) w w' := by
  have HN : Hid (Ns w v ns) := h
  obtain ⟨ao, cap, rfl, -⟩ := h
  obtain ⟨C, hC⟩ : ∃ C, C = chk ns s := ⟨_, rfl⟩
  have HC : Hid (C = chk ns s) := hC
  rw [← hC]
  clear hC
  by_cases hl : 120 < s.length
  · have hl' : (120 : Int) < (s.length : Int) := by omega
    have e1 := HC.out.trans (chk_long hl)
    subst e1
    go_enter Tryd.func61, Tryd.ntmps61
    go_wp2_with fail
    go_ret2
    exact ⟨rfl, Kept.refl _ _⟩
  · have hl' : ¬ (120 : Int) < (s.length : Int) := by omega
    have hs : s.length ≤ 10000 := by omega
    have HS : Hid (s.length ≤ 10000) := hs
    have cw := words_any (w := w) s hs
    go_enter Tryd.func61, Tryd.ntmps61
    go_wp2_with fail
    refine Calls.mono cw ?_
    rintro e W1 ⟨⟨wv, rfl, hW⟩, k1⟩
    clear cw
    obtain ⟨ws, hws⟩ : ∃ ws, ws = Wo s 0 := ⟨_, rfl⟩
    rw [← hws] at hW
    have HR : Hid (C = rowRun ns s.length [1] ws) := by
      show _ = _
      rw [HC.out, row_chk, chk, if_neg hl, hws]
    have HWL : Hid (ws.length ≤ 10000) := by
      have h1 := words_few s
      rw [← hws] at h1
      have h2 := HS.out
      show _ ≤ _
      omega
    have HXL : Hid (∀ i (hi : i < ws.length), (ws[i]).2.length ≤ 281474976710656) := by
      intro i hi
      exact texts_short s hs _ (by rw [← hws]; exact List.getElem_mem hi)
    have HV : Hid (Wv W1 wv ws) := hW.view
    have HK1 : Hid (Kept (fun _ => True) w W1) := k1
    obtain ⟨wao, wcap, rfl, hwc, hwx⟩ := hW.view
    have HWX : Hid _ := hwx
    have HI0 : Hid _ := Its.new W1 1
    clear hws hW k1 hwx hwc HC
    go_wp2_with fail
    go_loopw [7, 8, 9, 10, 11, 12] (fun t7 t8 _ _ _ _ wr => ∃ (i : Nat) (S : List Nat), i ≤ ws.length ∧ t8 = .int .i64 (i : Nat) ∧ C = rowRun ns s.length S (ws.drop i) ∧ S.length ≤ i + 1 ∧ (∀ k ∈ S, k ≤ 2) ∧ Its wr W1.heap.size t7 S.reverse ∧ Kept (fun _ => True) W1 wr) (fun _ t8 _ _ _ _ _ => ws.length - (intOf t8).toNat)
    case atStart => exact ⟨0, [1], Nat.zero_le _, rfl, HR.out, Nat.le_refl _, by simp, HI0.out, (Kept.refl _ _).alloc _⟩
    case round =>
      obtain ⟨i, S, hi, rfl, hC, hSl, hS2, hI, hk⟩ := hrel
      have HCi : Hid (C = rowRun ns s.length S (ws.drop i)) := hC
      have HKi : Hid (Kept (fun _ => True) W1 wr) := hk
      have HS2 : Hid (∀ k ∈ S, k ≤ 2) := hS2
      obtain ⟨sao, scap, rfl⟩ := hI.shape
      rw [List.length_reverse] at hI ⊢
      have HI : Hid (Its wr W1.heap.size (.slice sao S.length scap) S.reverse) := hI
      clear hC hk hS2 hI
      have hwl10 : ws.length ≤ 10000 := HWL.out
      by_cases hlt : i < ws.length
      · obtain ⟨wb, woff, rfl, hwb, hwx⟩ := HWX.out (by omega)
        obtain ⟨q0, q1⟩ := hwx i hlt
        have q0 := (kept_cell HKi.out hwb trivial).trans q0
        have q1 := (kept_cell HKi.out hwb trivial).trans q1
        have HDR : Hid (ws.drop i = ws[i] :: ws.drop (i + 1)) := List.drop_eq_getElem_cons hlt
        have hxl := HXL.out i hlt
        have i1 : (i : Int) < (ws.length : Int) := by omega
        have i0 : (0 : Int) ≤ (i : Int) := by omega
        clear hwx
        generalize ws[i] = px at *
        obtain ⟨p, x⟩ := px
        simp only at q0 q1 hxl
        have cnum := fun W => number_any (w := W) x hxl
        have ctak := fun W => takes_any (w := W) x
        have cnam := fun W => rname_any (w := W) x hxl
        have cidx := rindex_any (HN.out.all (HK1.out.trans HKi.out)) x
        have HRF : Hid (rf ns x ≠ 0 → C = (rf ns x, p)) := by
          intro hr
          rw [HCi.out, HDR.out]
          simp only [rowRun, if_pos hr]
        rcases rf_cases ns x with ⟨hk1, hr⟩ | ⟨hk3, hx, hr⟩ | ⟨-, -, hr⟩
        · have e1 : Hid (C = (12, p)) := by show C = _; rw [HRF.out (by omega), hr]
          obtain ⟨n1, n2, n3⟩ := kind_one hk1
          rw [n1] at cnum
          rw [n2] at ctak
          rw [n3] at cnam
          clear cidx HRF hk1 hr n1 n2 n3
          go_wp2_with fail
          refine Calls.mono (cnum _) ?_
          rintro e wr ⟨rfl, rfl⟩
          go_wp2_with fail
          refine Calls.mono (ctak _) ?_
          rintro e wr ⟨rfl, rfl⟩
          go_wp2_with fail
          refine Calls.mono (cnam _) ?_
          rintro e wr ⟨rfl, rfl⟩
          go_wp2_with fail
          go_quiet (fail)
          go_wp2_with fail
          go_ret2
          exact ⟨by rw [e1.out]; rfl, (HK1.out.trans HKi.out).drewN _⟩
        · have e1 : Hid (C = (20, p)) := by show C = _; rw [HRF.out (by omega), hr]
          obtain ⟨n1, n2, n3⟩ := kind_name hk3
          have n4 : ix ns x = -1 := by rw [ix, if_neg hx]
          rw [n1] at cnum
          rw [n2] at ctak
          rw [n3] at cnam
          rw [n4] at cidx
          clear HRF hk3 hr n1 n2 n3 n4 hx
          go_wp2_with fail
          refine Calls.mono (cnum _) ?_
          rintro e wr ⟨rfl, rfl⟩
          go_wp2_with fail
          refine Calls.mono (ctak _) ?_
          rintro e wr ⟨rfl, rfl⟩
          go_wp2_with fail
          refine Calls.mono (cnam _) ?_
          rintro e wr ⟨rfl, rfl⟩
          go_wp2_with fail
          refine Calls.mono cidx ?_
          rintro e wr ⟨rfl, rfl⟩
          go_wp2_with fail
          go_quiet (fail)
          go_wp2_with fail
          go_ret2
          exact ⟨by rw [e1.out]; rfl, (HK1.out.trans HKi.out).drewN _⟩
        · have HF : Hid _ := kind_fine hr
          have HAR : Hid (ar (opOf x) = ar (kd x)) := ar_op x
          have HRF0 : Hid (rf ns x = 0) := hr
          have ha2 : ar (opOf x) ≤ 2 := by unfold ar; split <;> (try split) <;> omega
          clear HRF hr
          generalize isNum x = nb at *
          generalize ar (opOf x) = A at *
          generalize isName x = nmb at *
          generalize ix ns x = ixx at *
          generalize (if nb = true then num x else 0) = zz at *
          go_wp2_with fail
          refine Calls.mono (cnum _) ?_
          rintro e wr ⟨rfl, rfl⟩
          go_wp2_with fail
          refine Calls.mono (ctak _) ?_
          rintro e wr ⟨rfl, rfl⟩
          clear cnum ctak
          go_upto_region 11 with fail
          go_cut [48] from 38 to 47 (fun t48 wx => t48 = .bool false ∧ wr = wx)
          case first =>
            rcases HF.out with h1 | ⟨h1, h2⟩ | ⟨h1, h2, h3, h4⟩
            · subst h1
              go_wp2_with fail
              go_meet
              exact ⟨rfl, rfl⟩
            · subst h1
              have h2' : ((A : Int) == 0) = false := by simp; omega
              go_wp2_with fail
              go_meet
              exact ⟨rfl, rfl⟩
            · subst h1 h2 h3
              go_wp2_with fail
              refine Calls.mono (cnam _) ?_
              rintro e wr ⟨rfl, rfl⟩
              go_wp2_with fail
              go_meet
              exact ⟨rfl, rfl⟩
          case rest =>
          obtain ⟨rfl, rfl⟩ := hcut
          go_upto_region 13 with fail
          go_cut [65] from 54 to 64 (fun t65 wx => t65 = .bool false ∧ wr = wx)
          case first =>
            rcases HF.out with h1 | ⟨h1, h2⟩ | ⟨h1, h2, h3, h4⟩
            · subst h1
              go_wp2_with fail
              go_meet
              exact ⟨rfl, rfl⟩
            · subst h1
              have h2' : ((A : Int) == 0) = false := by simp; omega
              go_wp2_with fail
              go_meet
              exact ⟨rfl, rfl⟩
            · subst h1 h2 h3
              have h4' : decide (ixx < 0) = false := by simp; omega
              go_wp2_with fail
              refine Calls.mono cidx ?_
              rintro e wr ⟨rfl, rfl⟩
              go_wp2_with fail
              go_meet
              exact ⟨rfl, rfl⟩
          case rest =>
          obtain ⟨rfl, rfl⟩ := hcut
          clear cnam cidx HF
          have HST : Hid (∀ S', S.dropWhile (fun n => n == 0) = S' → C = if 17 < S'.length then (22, p) else match S' with
              | [] => (11, p)
              | n :: t => if 0 < A then rowRun ns s.length (A :: (n - 1) :: t) (ws.drop (i + 1)) else rowRun ns s.length ((n - 1) :: t) (ws.drop (i + 1))) := by
            intro S' hS'
            rw [HCi.out, HDR.out, row_step HRF0.out hS', HAR.out]
            cases S' <;> rfl
          have hSl2 : S.length ≤ 10001 := by have := HWL.out; omega
          go_wp2_with fail
          go_loop [7] (fun t7 => ∃ S' : List Nat, S'.dropWhile (fun n => n == 0) = S.dropWhile (fun n => n == 0) ∧ S'.length ≤ S.length ∧ (∀ k ∈ S', k ≤ 2) ∧ Its wr W1.heap.size t7 S'.reverse) (fun t7 => lenOf t7)
          case atStart => exact ⟨S, rfl, Nat.le_refl _, HS2.out, HI.out⟩
          case round =>
            obtain ⟨S', hd, hl2, h22, hI'⟩ := hrel
            have HD' : Hid (S'.dropWhile (fun n => n == 0) = S.dropWhile (fun n => n == 0)) := hd
            have H22 : Hid (∀ k ∈ S', k ≤ 2) := h22
            obtain ⟨sao', scap', rfl⟩ := hI'.shape
            rw [List.length_reverse] at hI' ⊢
            have HI' : Hid (Its wr W1.heap.size (.slice sao' S'.length scap') S'.reverse) := hI'
            clear hd h22 hI' HI HCi HDR HRF0 HAR
            cases S' with
            | nil =>
              have e1 : Hid (C = (11, p)) := by
                show C = _
                rw [HST.out [] (by rw [← HD'.out]; rfl)]
                rfl
              go_wp2_with fail
              go_quiet (fail)
              go_wp2_with fail
              go_ret2
              exact ⟨by rw [e1.out]; rfl, (HK1.out.trans HKi.out).drewN _⟩
            | cons k t =>
              obtain ⟨d1, d2, d3⟩ := drop_last (S := k :: t) rfl
              obtain ⟨g, rfl, hbg, -, hcap, hfz⟩ := HI'.out.spot (by simp)
              have HIt : Hid (Its wr W1.heap.size (.slice (some ⟨g, 0, none⟩) (t.length + 1) scap') (k :: t).reverse) := HI'.out
              obtain ⟨g', e2, q2⟩ := HI'.out.at t.length (by rw [d2]; omega)
              rw [d3] at q2
              cases e2
              rw [d2] at hcap
              have hf := hfz t.length
              have ht1 : (0 : Int) < (t.length : Int) + 1 := by omega
              simp only [List.length_cons] at hl2 ⊢
              clear hfz HI' d2 d3
              by_cases hk0 : k = 0
              · subst hk0
                have hrc := run_cut (g := g) (n := t.length + 1) (cap := scap') t.length (by omega)
                have HIc : Hid (Its wr W1.heap.size (.slice (some ⟨g, 0, none⟩) t.length scap') t.reverse) := by
                  have h9 := Its.cut (ks := (0 :: t).reverse) (by simpa using HIt.out)
                  rw [d1] at h9
                  show Its _ _ _ _
                  simpa using h9
                clear d1 HIt
                go_wp2_with fail
                go_round
                case rel => exact ⟨t, by rw [← HD'.out]; rfl, by omega, fun k hk => H22.out k (List.mem_cons_of_mem _ hk), HIc.out⟩
                case measure => simp [lenOf]
              · have hk0' : ((k : Int) == 0) = false := by simp; omega
                have hk2 : k ≤ 2 := H22.out k (by simp)
                have HST2 : Hid (C = if 17 < (k :: t).length then (22, p) else if 0 < A then rowRun ns s.length (A :: (k - 1) :: t) (ws.drop (i + 1)) else rowRun ns s.length ((k - 1) :: t) (ws.drop (i + 1))) := by
                  show C = _
                  rw [HST.out (k :: t) (by rw [← HD'.out]; simp [hk0])]
                clear HST HD'
                by_cases h17 : 16 < t.length
                · have h17' : (16 : Int) < (t.length : Int) := by omega
                  have e1 : Hid (C = (22, p)) := by show C = _; rw [HST2.out, if_pos (by simp; omega)]
                  go_wp2_with fail
                  go_quiet (fail)
                  go_wp2_with fail
                  go_ret2
                  exact ⟨by rw [e1.out]; rfl, (HK1.out.trans HKi.out).drewN _⟩
                · have h17' : ¬ (16 : Int) < (t.length : Int) := by omega
                  have HSet : Hid (Its (wr.setCell ⟨g, t.length, none⟩ (.int .i64 ((k : Int) - 1))) W1.heap.size (.slice (some ⟨g, 0, none⟩) (t.length + 1) scap') ((k - 1) :: t).reverse) := by
                    have h9 := Its.set (ks := (k :: t).reverse) (by simpa using HIt.out) t.length (k - 1)
                    have e3 : (k :: t).reverse.set t.length (k - 1) = ((k - 1) :: t).reverse := by
                      rw [List.reverse_cons, List.reverse_cons, List.set_append_right _ _ (by simp)]
                      simp
                    have e4 : ((k - 1 : Nat) : Int) = (k : Int) - 1 := by omega
                    rw [e3, e4] at h9
                    show Its _ _ _ _
                    simpa using h9
                  have HKs : Hid (Kept (fun _ => True) W1 (wr.setCell ⟨g, t.length, none⟩ (.int .i64 ((k : Int) - 1)))) := HKi.out.fresh ((Kept.refl (· ≠ g) _).setCell (by simp) _) hbg
                  have hne : ¬ ((t.length : Int) + 1 = 0) := by omega
                  rw [if_neg (by simp; omega)] at HST2
                  clear d1 HIt
                  by_cases hA : 0 < A
                  · have hA' : (0 : Int) < (A : Int) := by omega
                    rw [if_pos hA] at HST2
                    have HG9 : Hid (((wr.setCell ⟨g, t.length, none⟩ (.int .i64 ((k : Int) - 1))).alloc (.cells #[.int .i64 (A : Nat)] 3)).heap[wr.heap.size]? = some (.cells #[.int .i64 (A : Nat)] 3 (0, 0))) := by
                      have h9 := heap_alloc_new (wr.setCell ⟨g, t.length, none⟩ (.int .i64 ((k : Int) - 1))) (.cells #[.int .i64 (A : Nat)] 3)
                      have e5 : (wr.setCell ⟨g, t.length, none⟩ (.int .i64 ((k : Int) - 1))).heap.size = wr.heap.size := by simp [World.setCell]
                      rw [e5] at h9
                      exact h9
                    have HLR : Hid (((k - 1) :: t).reverse.length = t.length + 1) := by show _ = _; simp
                    go_wp2_with (at_builtin; refine wpList_append_int rfl (.tmp 115) (.tmp 117) rfl W1.heap.size (.slice (some ⟨g, 0, none⟩) (t.length + 1) scap') ((k - 1) :: t).reverse rfl (HSet.out.fresh _) (Nat.le_trans HKs.out.size (by simp)) wr.heap.size rfl A (0, 0) HG9.out (by rw [HLR.out]; omega) ?_; intro ao9 cap9 w9 t9 g9)
                    go_roundw
                    case rel => exact ⟨i + 1, A :: (k - 1) :: t, by omega, by go_num, HST2.out, by simp at hSl hl2 ⊢; omega, by intro z hz; simp at hz; rcases hz with rfl | rfl | hz; exact ha2; omega; exact H22.out z (List.mem_cons_of_mem _ hz), by simpa using t9, HSet.out.grown HKs.out g9⟩
                    case measure => simp [intOf]; omega
                  · have hA' : ¬ (0 : Int) < (A : Int) := by omega
                    rw [if_neg hA] at HST2
                    go_wp2_with fail
                    go_roundw
                    case rel => exact ⟨i + 1, (k - 1) :: t, by omega, by go_num, HST2.out, by simp at hSl hl2 ⊢; omega, by intro z hz; simp at hz; rcases hz with rfl | hz; omega; exact H22.out z (List.mem_cons_of_mem _ hz), HSet.out, HKs.out⟩
                    case measure => simp [intOf]; omega
      · have i1 : ¬ (i : Int) < (ws.length : Int) := by omega
        have HEN : Hid (C = if S.any (fun n => decide (0 < n)) = true then (10, s.length) else (0, 0)) := by
          show C = _
          rw [HCi.out, List.drop_eq_nil_of_le (by omega)]
          rfl
        go_wp2_with fail
        go_loop [13] (fun t13 => ∃ j : Nat, j ≤ S.length ∧ t13 = .int .i64 (j : Nat) ∧ ∀ k ∈ S.reverse.take j, k = 0) (fun t13 => S.length - (intOf t13).toNat)
        case atStart => exact ⟨0, Nat.zero_le _, rfl, by simp⟩
        case round =>
          obtain ⟨j, hj, rfl, h0⟩ := hrel
          have H0 : Hid (∀ k ∈ S.reverse.take j, k = 0) := h0
          clear h0
          by_cases hlt2 : j < S.length
          · obtain ⟨g, rfl, q2⟩ := HI.out.at j (by rw [List.length_reverse]; exact hlt2)
            have HTK : Hid (S.reverse.take (j + 1) = S.reverse.take j ++ [S.reverse[j]'(by simpa using hlt2)]) := List.take_succ_eq_append_getElem (by simpa using hlt2)
            have HME : Hid (S.reverse[j]'(by simpa using hlt2) ∈ S) := List.mem_reverse.1 (List.getElem_mem _)
            have j1 : (j : Int) < (S.length : Int) := by omega
            have j0 : (0 : Int) ≤ (j : Int) := by omega
            generalize S.reverse[j]'(by simpa using hlt2) = z at *
            by_cases hz : 0 < z
            · have hz' : (0 : Int) < (z : Int) := by omega
              have e1 : Hid (C = (10, s.length)) := by
                show C = _
                rw [HEN.out, if_pos]
                exact List.any_eq_true.2 ⟨z, HME.out, by simpa using hz⟩
              go_wp2_with fail
              go_ret2
              exact ⟨by rw [e1.out]; rfl, HK1.out.trans HKi.out⟩
            · have hz' : ¬ (0 : Int) < (z : Int) := by omega
              have HZ : Hid (z = 0) := by show z = 0; omega
              clear hz
              go_wp2_with fail
              go_round
              case rel =>
                refine ⟨j + 1, by omega, by go_num, fun k hk => ?_⟩
                rw [HTK.out] at hk
                rcases List.mem_append.1 hk with hk | hk
                · exact H0.out k hk
                · rw [List.mem_singleton.1 hk]; exact HZ.out
              case measure => simp [intOf]; omega
          · have j1 : ¬ (j : Int) < (S.length : Int) := by omega
            have e1 : Hid (C = (0, 0)) := by
              show C = _
              rw [HEN.out, if_neg]
              intro h
              obtain ⟨z, hz1, hz2⟩ := List.any_eq_true.1 h
              have := H0.out z (by rw [List.take_of_length_le (by simp; omega)]; exact List.mem_reverse.2 hz1)
              simp at hz2
              omega
            go_wp2_with fail
            go_ret2
            exact ⟨by rw [e1.out]; rfl, HK1.out.trans HKi.out⟩

end Go.Proofs.YtnddpalngjmhnaaDoor
