/-
  WalSurvives: whatever the texts, the resets and the crash: true, and nothing old is written.
-/
import Derived.Test.YtdajaplmigcooaaWStates2
import Derived.Test.YtdajaplmigcooaaLawWal2
namespace Go.Proofs.Ytdajaplmigcooaa
open Go.RowKit

theorem gfs_bound (F : Nat → Bool) (ss : List (List UInt8)) (k : Nat) : (wbytes (gfs F ss k)).length ≤ 109 * k := by
  induction k with
  | zero => simp [gfs, wbytes]
  | succ k ih =>
    rw [gfs_succ, wbytes_snoc, List.length_append, frameOf_length, List.length_take]
    omega
theorem wbytes_append (a b : List (Bool × List UInt8)) : wbytes (a ++ b) = wbytes a ++ wbytes b := by simp [wbytes]
/-- The states from the last Sync on. -/
def sts (fs0 : List (Bool × List UInt8)) (F : Nat → Bool) (ss : List (List UInt8)) (j : Nat) : List (List (List UInt8)) := (List.range j).map fun k => stateFrom [] (fs0 ++ gfs F ss k)
theorem sts_succ (fs0 : List (Bool × List UInt8)) (F : Nat → Bool) (ss : List (List UInt8)) (j : Nat) : sts fs0 F ss (j + 1) = sts fs0 F ss j ++ [stateFrom [] (fs0 ++ gfs F ss j)] := by
  unfold sts
  rw [List.range_succ, List.map_append]
  rfl

set_option maxRecDepth 100000 in
set_option maxHeartbeats 4000000 in
theorem walSurvives_any {w : World} {a0 : Option Addr} {cap0 : Nat} {sb : List (List UInt8)} (h0 : IsStrs w a0 sb) {a1 : Option Addr} {cap1 : Nat} {sa : List (List UInt8)} (h1 : IsStrs w a1 sa) {a2 : Option Addr} {len2 cap2 : Nat} {Bf : Nat → Bool} (h2 : IsBools w a2 len2 Bf) (keep : Int) :
    Calls Try.prog 6 #[.slice a0 sb.length cap0, .slice a1 sa.length cap1, .slice a2 len2 cap2, .int .i64 keep] w fun e w' => e = .returned (.bool true) ∧ Kept (fun _ => True) w w' := by
  have HS0 : Hid (IsStrs w a0 sb) := h0
  have HS1 : Hid (IsStrs w a1 sa) := h1
  have HB : Hid (IsBools w a2 len2 Bf) := h2
  clear h0 h1 h2
  go_enter Try.func6, Try.ntmps6
  go_wp2_with fail
  refine Calls.mono new_any ?_
  rintro e w1 ⟨rfl, d1, k1⟩
  have m1 := Mine.new d1 k1
  generalize w.heap.size = B at m1 ⊢
  clear d1 k1
  go_wp2_with fail
  refine Calls.mono (open_any m1.now) ?_
  rintro e w2 ⟨L, v2, t2, rfl, l2, k2, n2⟩
  have m2 : Hid (LM w w2 L B v2 t2 [] 0 []) := by have := m1.log l2 k2 n2; rw [run_a] at this; exact this
  clear l2 k2 n2 m1
  go_wp2_with fail
  go_loopw [12] (fun t wr => ∃ (i : Nat) (v tv : Value), i ≤ sb.length ∧ i ≤ 10 ∧ t = .int .i64 i ∧ LM w wr L B v tv (wbytes (frs sb i)) 0 ((frs sb i).map Prod.snd)) (fun t _ => 10 - (intOf t).toNat)
  case atStart => exact ⟨0, v2, t2, Nat.zero_le _, Nat.zero_le _, rfl, m2.out⟩
  case round =>
    obtain ⟨i, v, tv, hi, hi10, rfl, hM⟩ := hrel
    have HM : Hid (LM w wr L B v tv (wbytes (frs sb i)) 0 ((frs sb i).map Prod.snd)) := hM
    have hbb := frs_bound sb i
    clear hM
    by_cases hlt : i < sb.length ∧ i < 10
    · obtain ⟨hl1, hl2⟩ := hlt
      have hl1' : (i : Int) < (sb.length : Int) := by omega
      have hl2' : (i : Int) < 10 := by omega
      have hi0 : (0 : Int) ≤ (i : Int) := by omega
      obtain ⟨b, off, rfl, hb, hcell⟩ := HS0.out.1 (by omega)
      have c1 : wr.cell? ⟨b, off + i, none⟩ = some (.string ⟨(sb[i]).toArray⟩) := (kept_cell HM.out.kept hb trivial).trans (hcell i hl1)
      have HF := frs_succ sb i hl1
      clear hcell hb
      have hr100 : ((sb[i]).take 100).length ≤ 100 := by rw [List.length_take]; omega
      have cf := fun W : World => few_any (w := W) (sb[i])
      generalize (sb[i]).take 100 = r at *
      generalize sb[i] = x at *
      have HF' : Hid (frs sb (i + 1) = frs sb i ++ [(false, r)]) := HF
      clear HF
      go_wp2_with fail
      refine Calls.mono (cf wr) ?_
      rintro e wr ⟨rfl, rfl⟩
      go_wp2_with fail
      refine Calls.mono (lappend_any HM.out.lg r (by omega) (by omega)) ?_
      rintro e w3 ⟨rfl, v3, t3, l3, q3⟩
      have m3 : Hid (LM w w3 L B v3 t3 (wbytes (frs sb (i + 1))) 0 ((frs sb (i + 1)).map Prod.snd)) := by
        have := HM.out.step l3 q3
        rw [← wbytes_snoc (frs sb i) (false, r), ← HF'.out] at this
        rw [HF'.out, List.map_append]
        rw [HF'.out] at this
        exact this
      clear l3 q3
      go_wp2_with fail
      go_roundw
      case rel => exact ⟨i + 1, v3, t3, by omega, by omega, by go_num, m3.out⟩
      case measure => simp [intOf]; omega
    · have hex : ¬ (i : Int) < (sb.length : Int) ∨ ((i : Int) < (sb.length : Int) ∧ ¬ (i : Int) < 10) := by omega
      clear hlt
      have hst := frs_state sb i
      rcases hex with hex | ⟨hex, hex2⟩
      all_goals
        go_wp2_with fail
        refine Calls.mono (lsync_any HM.out.lg) ?_
        rintro e w4 ⟨rfl, l4, q4⟩
        have m4 := HM.out.step l4 q4
        rw [← hst] at m4
        clear l4 q4
        go_wp2_with fail
        refine Calls.mono (lall_any m4.lg) ?_
        rintro e w5 ⟨rfl, h5, k5⟩
        have m5 := m4.ahead k5
        have hF5 := m4.lg.fresh
        have hw4 := m4.kept.size
        obtain ⟨fs0, hfs⟩ : ∃ fs0, fs0 = frs sb i := ⟨_, rfl⟩
        have hfit : Hid (Fits fs0) := by rw [hfs]; exact frs_fits sb i
        rw [← hfs] at m5 h5 hbb ⊢
        have h5' : Txs w5 w.heap.size (sv (w4.heap.size, stateFrom [] fs0)) (stateFrom [] fs0) := h5.lower hw4
        have hbb2 : (wbytes fs0).length ≤ 1090 := by omega
        clear h5 k5 m4 hst hw4 hbb HM
        generalize w4.heap.size = D0 at *
        have K6 : Hid (Kept2 w (w5.alloc (.cells #[sv (D0, stateFrom [] fs0)] 33)) L B v tv (wbytes fs0) (wbytes fs0).length (stateFrom [] fs0) (.slice (some ⟨w5.heap.size, 0, none⟩) 1 1) [(D0, stateFrom [] fs0)]) := ⟨m5.ahead ((Kept.refl _ _).alloc _), Row2.one w5 w.heap.size _ m5.kept.size, fun x hx => by obtain rfl := List.mem_singleton.1 hx; exact ⟨h5'.fresh _, hF5⟩⟩
        clear m5 h5' hF5 hfs
        obtain ⟨F, hF⟩ : ∃ F : Nat → Bool, ∀ k, F k = (decide (k < len2) && Bf k) := ⟨_, fun _ => rfl⟩
        have HF : Hid (∀ k, F k = (decide (k < len2) && Bf k)) := hF
        clear hF
        go_wp2_with fail
        go_loopw [13, 14] (fun t13 t14 wr => ∃ (j rc : Nat) (ra : Option Addr) (v tv : Value) (Ls : List (Nat × List (List UInt8))), j ≤ sa.length ∧ j ≤ 10 ∧ t13 = .slice ra (j + 1) rc ∧ t14 = .int .i64 j ∧ Kept2 w wr L B v tv (wbytes (fs0 ++ gfs F sa j)) (wbytes fs0).length (stateFrom [] (fs0 ++ gfs F sa j)) (.slice ra (j + 1) rc) Ls ∧ Ls.map Prod.snd = sts fs0 F sa (j + 1)) (fun _ t14 _ => 10 - (intOf t14).toNat)
        case atStart =>
          refine ⟨0, 1, some ⟨w5.heap.size, 0, none⟩, v, tv, [(D0, stateFrom [] fs0)], Nat.zero_le _, Nat.zero_le _, rfl, rfl, ?_, by simp [sts, gfs]⟩
          have e : fs0 ++ gfs F sa 0 = fs0 := by simp [gfs]
          rw [e]
          exact K6.out
        case round =>
          clear K6
          obtain ⟨j, rc, ra, v, tv, Ls, hj, hj10, rfl, rfl, hK, hLs⟩ := hrel
          have HK : Hid (Kept2 w wr L B v tv (wbytes (fs0 ++ gfs F sa j)) (wbytes fs0).length (stateFrom [] (fs0 ++ gfs F sa j)) (.slice ra (j + 1) rc) Ls) := hK
          have HLs : Hid (Ls.map Prod.snd = sts fs0 F sa (j + 1)) := hLs
          have hLl : Hid (Ls.length = j + 1) := by have := congrArg List.length hLs; show Ls.length = j + 1; simpa [sts] using this
          have hbj : (wbytes (fs0 ++ gfs F sa j)).length ≤ 2180 := by
            have := gfs_bound F sa j
            rw [wbytes_append, List.length_append]
            omega
          clear hK hLs
          by_cases hlt : j < sa.length ∧ j < 10
          · obtain ⟨hl1, hl2⟩ := hlt
            have hl1' : (j : Int) < (sa.length : Int) := by omega
            have hl2' : (j : Int) < 10 := by omega
            have hj0 : (0 : Int) ≤ (j : Int) := by omega
            obtain ⟨b, off, rfl, hb, hcell⟩ := HS1.out.1 (by omega)
            have c1 : wr.cell? ⟨b, off + j, none⟩ = some (.string ⟨(sa[j]).toArray⟩) := (kept_cell HK.out.lm.kept hb trivial).trans (hcell j hl1)
            have hA' : fs0 ++ gfs F sa (j + 1) = (fs0 ++ gfs F sa j) ++ [(F j, (sa[j]).take 100)] := by
              rw [gfs_succ, List.append_assoc, List.getD_eq_getElem?_getD, List.getElem?_eq_getElem hl1]
              rfl
            clear hcell hb
            have hr100 : ((sa[j]).take 100).length ≤ 100 := by rw [List.length_take]; omega
            have cf := fun W : World => few_any (w := W) (sa[j])
            generalize (sa[j]).take 100 = r at *
            generalize sa[j] = x at *
            have HA' : Hid (fs0 ++ gfs F sa (j + 1) = (fs0 ++ gfs F sa j) ++ [(F j, r)]) := hA'
            clear hA'
            have hways : ((j : Int) < (len2 : Int) ∧ Bf j = true ∧ F j = true) ∨ ((j : Int) < (len2 : Int) ∧ Bf j = false ∧ F j = false) ∨ (¬ (j : Int) < (len2 : Int) ∧ F j = false) := by
              have := HF.out j
              by_cases h : j < len2
              · cases hB : Bf j
                · exact .inr (.inl ⟨by omega, rfl, by rw [this, hB]; simp⟩)
                · exact .inl ⟨by omega, rfl, by rw [this, hB]; simp [h]⟩
              · exact .inr (.inr ⟨by omega, by rw [this]; simp [h]⟩)
            rcases hways with ⟨hg, hBj, hFj⟩ | ⟨hg, hBj, hFj⟩ | ⟨hg, hFj⟩
            · obtain ⟨b3, o3, rfl, hb3, hc3⟩ := HB.out (by omega)
              have c3 : wr.cell? ⟨b3, o3 + j, none⟩ = some (.bool true) := by rw [kept_cell HK.out.lm.kept hb3 trivial, hc3 j (by omega), hBj]
              clear hc3 hb3 hBj
              go_wp2_with fail
              refine Calls.mono (cf wr) ?_
              rintro e wr ⟨rfl, rfl⟩
              go_wp2_with fail
              refine Calls.mono (lreset_any HK.out.lm.lg r (by omega) (by omega)) ?_
              rintro e w3 ⟨rfl, v3, t3, l3, q3⟩
              have K3 : Kept2 w w3 L B v3 t3 (wbytes (fs0 ++ gfs F sa (j + 1))) (wbytes fs0).length (stateFrom [] (fs0 ++ gfs F sa (j + 1))) (.slice ra (j + 1) rc) Ls := by
                have := HK.out.step l3 q3
                rw [HA'.out, wbytes_snoc, state_snoc, hFj]
                exact this
              clear l3 q3
              go_wp2_with fail
              refine Calls.mono (lall_any K3.lm.lg) ?_
              rintro e w4 ⟨rfl, h4, k4⟩
              have K4 : Hid (Kept2 w w4 L B v3 t3 (wbytes (fs0 ++ gfs F sa (j + 1))) (wbytes fs0).length (stateFrom [] (fs0 ++ gfs F sa (j + 1))) (.slice ra (j + 1) rc) Ls) := K3.ahead k4
              have hx4 : Hid (Txs w4 w.heap.size (sv (w3.heap.size, stateFrom [] (fs0 ++ gfs F sa (j + 1)))) (stateFrom [] (fs0 ++ gfs F sa (j + 1)))) := h4.lower K3.lm.kept.size
              have hF4 : Hid (¬ Foot L B v3 t3 w3.heap.size) := K3.lm.lg.fresh
              clear K3 h4 k4
              generalize w3.heap.size = D4 at *
              go_wp2_with (at_builtin; refine wpList_append_row2 rfl (.tmp 90) (.tmp 93) rfl w.heap.size (.slice ra (j + 1) rc) Ls rfl (K4.out.row.kept (p := fun _ => True) ((Kept.refl _ _).alloc _) (fun _ _ => trivial)) (Nat.le_trans K4.out.lm.kept.size (by simp)) w4.heap.size rfl (D4, stateFrom [] (fs0 ++ gfs F sa (j + 1))) _ (heap_alloc_new w4 _) (by have := hLl.out; omega) ?_; intro a6 c6 w6 hr6 hg6 hl6)
              go_roundw
              case rel =>
                have K6 := K4.out.more hx4.out hF4.out hr6 hg6
                rw [hLl.out] at K6
                exact ⟨j + 1, c6, a6, v3, t3, _, by omega, by omega, by rw [hLl.out], by go_num, K6, by rw [List.map_append, HLs.out, sts_succ _ _ _ (j + 1)]; rfl⟩
              case measure => simp [intOf]; omega
            · obtain ⟨b3, o3, rfl, hb3, hc3⟩ := HB.out (by omega)
              have c3 : wr.cell? ⟨b3, o3 + j, none⟩ = some (.bool false) := by rw [kept_cell HK.out.lm.kept hb3 trivial, hc3 j (by omega), hBj]
              clear hc3 hb3 hBj
              go_wp2_with fail
              refine Calls.mono (cf wr) ?_
              rintro e wr ⟨rfl, rfl⟩
              go_wp2_with fail
              refine Calls.mono (lappend_any HK.out.lm.lg r (by omega) (by omega)) ?_
              rintro e w3 ⟨rfl, v3, t3, l3, q3⟩
              have K3 : Kept2 w w3 L B v3 t3 (wbytes (fs0 ++ gfs F sa (j + 1))) (wbytes fs0).length (stateFrom [] (fs0 ++ gfs F sa (j + 1))) (.slice ra (j + 1) rc) Ls := by
                have := HK.out.step l3 q3
                rw [HA'.out, wbytes_snoc, state_snoc, hFj]
                exact this
              clear l3 q3
              go_wp2_with fail
              refine Calls.mono (lall_any K3.lm.lg) ?_
              rintro e w4 ⟨rfl, h4, k4⟩
              have K4 : Hid (Kept2 w w4 L B v3 t3 (wbytes (fs0 ++ gfs F sa (j + 1))) (wbytes fs0).length (stateFrom [] (fs0 ++ gfs F sa (j + 1))) (.slice ra (j + 1) rc) Ls) := K3.ahead k4
              have hx4 : Hid (Txs w4 w.heap.size (sv (w3.heap.size, stateFrom [] (fs0 ++ gfs F sa (j + 1)))) (stateFrom [] (fs0 ++ gfs F sa (j + 1)))) := h4.lower K3.lm.kept.size
              have hF4 : Hid (¬ Foot L B v3 t3 w3.heap.size) := K3.lm.lg.fresh
              clear K3 h4 k4
              generalize w3.heap.size = D4 at *
              go_wp2_with (at_builtin; refine wpList_append_row2 rfl (.tmp 90) (.tmp 93) rfl w.heap.size (.slice ra (j + 1) rc) Ls rfl (K4.out.row.kept (p := fun _ => True) ((Kept.refl _ _).alloc _) (fun _ _ => trivial)) (Nat.le_trans K4.out.lm.kept.size (by simp)) w4.heap.size rfl (D4, stateFrom [] (fs0 ++ gfs F sa (j + 1))) _ (heap_alloc_new w4 _) (by have := hLl.out; omega) ?_; intro a6 c6 w6 hr6 hg6 hl6)
              go_roundw
              case rel =>
                have K6 := K4.out.more hx4.out hF4.out hr6 hg6
                rw [hLl.out] at K6
                exact ⟨j + 1, c6, a6, v3, t3, _, by omega, by omega, by rw [hLl.out], by go_num, K6, by rw [List.map_append, HLs.out, sts_succ _ _ _ (j + 1)]; rfl⟩
              case measure => simp [intOf]; omega
            · go_wp2_with fail
              refine Calls.mono (cf wr) ?_
              rintro e wr ⟨rfl, rfl⟩
              go_wp2_with fail
              refine Calls.mono (lappend_any HK.out.lm.lg r (by omega) (by omega)) ?_
              rintro e w3 ⟨rfl, v3, t3, l3, q3⟩
              have K3 : Kept2 w w3 L B v3 t3 (wbytes (fs0 ++ gfs F sa (j + 1))) (wbytes fs0).length (stateFrom [] (fs0 ++ gfs F sa (j + 1))) (.slice ra (j + 1) rc) Ls := by
                have := HK.out.step l3 q3
                rw [HA'.out, wbytes_snoc, state_snoc, hFj]
                exact this
              clear l3 q3
              go_wp2_with fail
              refine Calls.mono (lall_any K3.lm.lg) ?_
              rintro e w4 ⟨rfl, h4, k4⟩
              have K4 : Hid (Kept2 w w4 L B v3 t3 (wbytes (fs0 ++ gfs F sa (j + 1))) (wbytes fs0).length (stateFrom [] (fs0 ++ gfs F sa (j + 1))) (.slice ra (j + 1) rc) Ls) := K3.ahead k4
              have hx4 : Hid (Txs w4 w.heap.size (sv (w3.heap.size, stateFrom [] (fs0 ++ gfs F sa (j + 1)))) (stateFrom [] (fs0 ++ gfs F sa (j + 1)))) := h4.lower K3.lm.kept.size
              have hF4 : Hid (¬ Foot L B v3 t3 w3.heap.size) := K3.lm.lg.fresh
              clear K3 h4 k4
              generalize w3.heap.size = D4 at *
              go_wp2_with (at_builtin; refine wpList_append_row2 rfl (.tmp 90) (.tmp 93) rfl w.heap.size (.slice ra (j + 1) rc) Ls rfl (K4.out.row.kept (p := fun _ => True) ((Kept.refl _ _).alloc _) (fun _ _ => trivial)) (Nat.le_trans K4.out.lm.kept.size (by simp)) w4.heap.size rfl (D4, stateFrom [] (fs0 ++ gfs F sa (j + 1))) _ (heap_alloc_new w4 _) (by have := hLl.out; omega) ?_; intro a6 c6 w6 hr6 hg6 hl6)
              go_roundw
              case rel =>
                have K6 := K4.out.more hx4.out hF4.out hr6 hg6
                rw [hLl.out] at K6
                exact ⟨j + 1, c6, a6, v3, t3, _, by omega, by omega, by rw [hLl.out], by go_num, K6, by rw [List.map_append, HLs.out, sts_succ _ _ _ (j + 1)]; rfl⟩
              case measure => simp [intOf]; omega
          · have hex3 : ¬ (j : Int) < (sa.length : Int) ∨ ((j : Int) < (sa.length : Int) ∧ ¬ (j : Int) < 10) := by omega
            clear hlt
            have hfit2 : Fits (fs0 ++ gfs F sa j) := fun x hx => by
              rcases List.mem_append.1 hx with h | h
              · exact hfit.out x h
              · exact gfs_fits F sa j x h
            rcases hex3 with hx | ⟨hx, hx2⟩
            all_goals
              go_wp2_with fail
              refine Calls.mono (crash_any HK.out.lm.lg.dk keep) ?_
              rintro e w6 ⟨rfl, v6, s6⟩
              go_wp2_with fail
              refine Calls.mono (open_any s6.now) ?_
              rintro e w7 ⟨M, v7, t7, rfl, l7, k7, n7⟩
              have K7 := HK.out.reopen s6 l7 k7 n7
              obtain ⟨q, hq, hsc⟩ := behind_crash fs0 (gfs F sa j) _ hfit2 (le_left (wbytes (fs0 ++ gfs F sa j)).length (wbytes fs0).length keep)
              rw [gfs_length] at hq
              rw [gfs_take F sa j q hq] at hsc
              rw [hsc] at K7
              obtain ⟨BB, SS, K8⟩ : ∃ BB SS, Kept2 w w7 M B v7 t7 BB SS (stateFrom [] (fs0 ++ gfs F sa q)) (.slice ra (j + 1) rc) Ls := ⟨_, _, K7⟩
              have HK8 : Hid (Kept2 w w7 M B v7 t7 BB SS (stateFrom [] (fs0 ++ gfs F sa q)) (.slice ra (j + 1) rc) Ls) := K8
              clear s6 l7 k7 n7 K7 K8 hsc hbj HK
              go_wp2_with fail
              go_loopw [17] (fun t wx => ∃ i : Nat, i ≤ q ∧ t = .int .i64 i ∧ Kept2 w wx M B v7 t7 BB SS (stateFrom [] (fs0 ++ gfs F sa q)) (.slice ra (j + 1) rc) Ls) (fun t _ => q - (intOf t).toNat)
              case atStart => exact ⟨0, Nat.zero_le _, rfl, HK8.out⟩
              case round =>
                obtain ⟨i, hiq, rfl, hKx⟩ := hrel
                have KX : Hid (Kept2 w wr M B v7 t7 BB SS (stateFrom [] (fs0 ++ gfs F sa q)) (.slice ra (j + 1) rc) Ls) := hKx
                clear hKx HK8
                have hiL : i < Ls.length := by have := hLl.out; omega
                have hij : (i : Int) < (j : Int) + 1 := by omega
                have hi0 : (0 : Int) ≤ (i : Int) := by omega
                obtain ⟨g, rfl, -, hcell⟩ := KX.out.row.at i hiL
                have hT : (Ls[i]).2 = stateFrom [] (fs0 ++ gfs F sa i) := by
                  have := congrArg (fun l => l[i]?) HLs.out
                  simp only [List.getElem?_map, List.getElem?_eq_getElem hiL, sts] at this
                  simpa [show i < j + 1 by omega] using this
                have HTx : Hid (Txs wr w.heap.size (sv Ls[i]) (Ls[i]).2) := (KX.out.each _ (List.getElem_mem hiL)).1
                obtain ⟨bq, hbq⟩ : ∃ bq : Bool, bq = decide (stateFrom [] (fs0 ++ gfs F sa q) = (Ls[i]).2) := ⟨_, rfl⟩
                have HBQ : Hid (bq = decide (stateFrom [] (fs0 ++ gfs F sa q) = (Ls[i]).2)) := hbq
                have hlast : Hid (i = q → bq = true) := fun e => by rw [hbq, hT, e]; simp
                have hmost : Hid ((stateFrom [] (fs0 ++ gfs F sa q)).length ≤ 4194304) := Nat.le_trans KX.out.lm.lg.most KX.out.lm.lg.dk.most
                clear hbq hT
                generalize Ls[i] = y at *
                obtain ⟨D, T⟩ := y
                have hcr : ∀ W, Kept (fun _ => True) wr W → W.cell? ⟨g, i, none⟩ = some (.slice (some ⟨D, 0, none⟩) T.length T.length) := fun W hW => (kept_cell hW (World.block_lt_of_cell? wr _ hcell) trivial).trans hcell
                clear hcell
                have kd : Kept (fun _ => True) wr wr.drew := (Kept.refl _ _).drewN 1
                generalize hst : stateFrom [] (fs0 ++ gfs F sa q) = st at *
                clear hst
                go_upto_if 121 with fail
                go_cut [121] from 115 to 120 (fun t wx => t = .bool bq ∧ Kept (fun _ => True) wr wx)
                case first =>
                  go_wp2_with fail
                  go_region_held (fun W => Kept (fun _ => True) wr W) (assumption) (first
                    | (go_at_call 17; refine Calls.mono (lall_any (KX.out.ahead kd).lm.lg) ?_; rintro e w8 ⟨rfl, h8, k8⟩; have k8' : Kept (fun _ => True) wr w8 := kd.trans k8; have h8T := HTx.out.kept k8' (fun _ _ => trivial))
                    | (go_at_call 16; refine Calls.mono (texts_any h8 h8T (by have := hmost.out; omega)) ?_; rintro e w9 ⟨rfl, n9, rfl⟩; have k9 : Kept (fun _ => True) wr (w8.drewN n9) := k8'.drewN _))
                  all_goals (go_wp2_with fail; go_meet; exact ⟨by rw [HBQ.out], k9⟩)
                case rest =>
                obtain ⟨rfl, kc⟩ := hcut
                have KXc : Hid (Kept2 w wc M B v7 t7 BB SS st (.slice (some ⟨g, 0, none⟩) (j + 1) rc) Ls) := KX.out.ahead kc
                clear kc KX hcr kd HTx
                cases bq
                · have hiq2 : i < q := by
                    rcases Nat.lt_or_ge i q with h | h
                    · exact h
                    · have := hlast.out (by omega); cases this
                  clear hlast HBQ
                  go_wp2_with fail
                  go_roundw
                  case rel => exact ⟨i + 1, by omega, by go_num, KXc.out⟩
                  case measure => simp [intOf]; omega
                · clear hlast HBQ
                  go_wp2_with fail
                  refine Calls.mono known_any ?_
                  rintro e we ⟨rfl, ke⟩
                  go_wp2
                  go_ret
                  exact ⟨rfl, KXc.out.lm.kept.trans ke⟩

end Go.Proofs.Ytdajaplmigcooaa
