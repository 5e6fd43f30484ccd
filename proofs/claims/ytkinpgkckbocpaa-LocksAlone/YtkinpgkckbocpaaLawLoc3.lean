/-
  LocksAlone: its walk.
-/
import Derived.Test.YtkinpgkckbocpaaKAsk
namespace Go.Proofs.Ytkinpgkckbocpaa
open Go.RowKit

theorem drop_in {ts : List (List UInt8)} {i : Nat} (hi : i < ts.length) {y : List UInt8} (h : y ∈ ts.drop i) (hne : y ≠ ts[i]) : y ∈ ts.drop (i + 1) := by
  rw [List.drop_eq_getElem_cons hi] at h
  rcases List.mem_cons.1 h with h | h
  · exact absurd h hne
  · exact h

set_option maxRecDepth 100000 in
set_option maxHeartbeats 8000000 in
theorem locksAlone_any {w : World} {a : Option Addr} {len cap : Nat} (h : IsAsks w a len) :
    Calls Try.prog 5 #[.slice a len cap] w fun e w' => e = .returned (.bool true) ∧ Kept (fun _ => True) w w' := by
  have HI : Hid (IsAsks w a len) := h
  clear h
  have cn := new_tm (w := w)
  go_enter Try.func5, Try.ntmps5
  go_wp2_with fail
  refine Calls.mono cn ?_
  rintro e w1 ⟨T, B0, rfl, t1⟩
  clear cn
  have HT1 : Hid (TM w w1 T 0 B0 (fun _ _ => none)) := t1
  clear t1
  go_wp2_with fail
  go_loopw [4, 5, 6, 7, 8, 9, 10, 11, 12, 13, 14] (fun t4 t5 t6 _ _ _ _ _ _ _ _ wr => ∃ (i n : Nat) (B : Lab → Option Nat) (h : Lk) (ts ns : List (List UInt8)), i ≤ 40 ∧ t6 = .int .i64 (i : Nat) ∧ AlK w wr T n B h t4 t5 ts ns ∧ (∀ c y, h c y ≠ none → y ∈ ts) ∧ n ≤ 6 * i ∧ ts.length ≤ i ∧ ns.length ≤ 6 * i) (fun _ _ t6 _ _ _ _ _ _ _ _ _ => 40 - (intOf t6).toNat)
  case atStart => exact ⟨0, 0, B0, _, [], [], Nat.zero_le _, rfl, ⟨HT1.out, Txs.nil _ _, Txs.nil _ _, fun k hk => by simp [Value.ownBlock] at hk, by simp, by simp⟩, fun c y e => absurd rfl e, Nat.le_refl _, Nat.le_refl _, Nat.le_refl _⟩
  case round =>
    obtain ⟨i, n, B, h, ts, ns, hi, rfl, hA, hall, hn, hts, hns⟩ := hrel
    clear HT1
    have HA : Hid (AlK w wr T n B h u4 u5 ts ns) := hA
    have HALL : Hid (∀ c y, h c y ≠ none → y ∈ ts) := hall
    have HN : Hid (n ≤ 6 * i ∧ ts.length ≤ i ∧ ns.length ≤ 6 * i) := ⟨hn, hts, hns⟩
    clear hall hn hts hns
    obtain ⟨a4, c4, rfl, -, -⟩ := hA.t4.shape
    obtain ⟨a5, c5, rfl, -, -⟩ := hA.t5.shape
    clear hA
    by_cases hlt : i < len ∧ i < 40
    · obtain ⟨hl1, hl2⟩ := hlt
      obtain ⟨b, off, z, rfl, c0, c1, c2, hz⟩ := ask_at HI.out hl1 HA.out.tm.kept
      obtain ⟨kind, x, l, wa, wp⟩ := z
      simp only at c0 c1 c2
      obtain ⟨l', hl', hle, hwn', hcase⟩ := want_cut 6 hz.wn hz.nil hz.cap
      simp only at hcase hle hwn'
      have HX1 : Hid (Xk (wr.alloc (.cells #[.int .i64 kind, .string ⟨x.toArray⟩, .slice wa l.length wp] 43)) wr.heap.size kind x wa l.length wp) := heap_alloc_new wr _
      obtain ⟨x0, x1, x2, x3⟩ := HX1.out.cells
      have HW : Hid (Wn w (.slice wa l'.length wp) l') := hwn'
      have h66 : (6 : Int) < (l.length : Int) → l'.length = 6 := fun h => by rw [hle, List.length_take]; omega
      have HXS : Hid (x.length ≤ 9223372036854775807) := hz.short
      have HLS : Hid (∀ y ∈ l', y.1.length ≤ 9223372036854775807) := fun y hy => hz.shorts y (by rw [hle] at hy; exact List.mem_of_mem_take hy)
      have HCAP : Hid (l.length ≤ wp) := hz.cap
      have i1 : (i : Int) < (len : Int) := by omega
      have i0 : (0 : Int) ≤ (i : Int) := by omega
      have i40 : (i : Int) < 40 := by omega
      clear hz hwn' hle
      go_upto_if 36 with fail
      go_cut [] from 33 to 40 (fun wx => Xk wx wr.heap.size kind x wa l'.length wp ∧ Kept (fun _ => True) wr wx)
      case first =>
        rcases hcase with ⟨h6, hsl⟩ | ⟨h6, rfl⟩
        · have h6c : (6 : Int) ≤ (wp : Int) := by have := HCAP.out; omega
          go_wp2_with fail
          go_meet
          exact ⟨by rw [h66 h6]; exact heap_alloc_new wr _, (Kept.refl _ _).alloc _⟩
        · go_wp2_with fail
          go_meet
          exact ⟨HX1.out, (Kept.refl _ _).alloc _⟩
      case rest =>
      obtain ⟨hx2, k2⟩ := hcut
      clear hcase x0 x1 x2 x3 c0 c1 c2 HX1 h66
      have HX2 : Hid (Xk wc wr.heap.size kind x wa l'.length wp) := hx2
      have HA2 : Hid (AlK w wc T n B h (.slice a4 ts.length c4) (.slice a5 ns.length c5) ts ns) := HA.out.all k2
      clear k2 hx2 HA
      generalize wc = w2 at *
      obtain ⟨x0, x1, x2, -⟩ := HX2.out.cells
      generalize wr.heap.size = X at *
      have ch := held_any HA2.out.tm.tb HXS.out (by have := HN.out; omega)
      go_wp2_with fail
      refine Calls.mono ch ?_
      rintro e w3 ⟨v8, us8, rfl, hel, hul, xt8, k3⟩
      clear ch
      have HX3 : Hid (Xk w3 X kind x wa l'.length wp) := HX2.out.calm (Calm.of k3)
      have HA3 : Hid (AlK w w3 T n B h (.slice a4 ts.length c4) (.slice a5 ns.length c5) ts ns) := HA2.out.all k3
      have HT8 : Hid (Txs w3 w2.heap.size v8 us8 ∧ Hel h x us8 ∧ us8.length ≤ n) := ⟨xt8, hel, hul⟩
      obtain ⟨a8, c8, rfl, -, -⟩ := xt8.shape
      clear HX2 HA2 k3 x0 x1 x2 xt8 hel hul
      obtain ⟨x0, x1, x2, -⟩ := HX3.out.cells
      go_upto_if 47 with fail
      go_cut [4, 5, 9, 10] from 45 to 89 (fun t4 t5 _ _ wx => ∃ (n' : Nat) (B' : Lab → Option Nat) (h' : Lk) (ts' ns' : List (List UInt8)), AlK w wx T n' B' h' t4 t5 ts' ns' ∧ (∀ c y, h' c y ≠ none → y ∈ ts') ∧ n' ≤ 6 * (i + 1) ∧ ts'.length ≤ i + 1 ∧ ns'.length ≤ 6 * (i + 1))
      case first =>
        by_cases hk : kind = 1
        · have hk1 : (kind == 1) = true := by simp [hk]
          have ct := take_tm HA3.out.tm HXS.out (HW.out.all HA3.out.tm.kept) HLS.out (by have := HN.out; omega)
          clear hk
          go_wp2_with fail
          refine Calls.mono ct ?_
          rintro e w4 ⟨r, h', B', rfl, hT, t4, kc⟩
          clear ct
          have HTK : Hid (Takes h x l' r h') := hT
          have HA4 : Hid (AlK w w4 T (n + l'.length) B' h' (.slice a4 ts.length c4) (.slice a5 ns.length c5) ts ns) := HA3.out.step t4 kc
          have HX4 : Hid (Xk w4 X kind x wa l'.length wp) := HX3.out.calm kc
          have HT84 : Hid (Txs w4 w2.heap.size (.slice a8 us8.length c8) us8 ∧ Hel h x us8 ∧ us8.length ≤ n) := ⟨kc.txs HT8.out.1, HT8.out.2⟩
          have HAL : Hid (∀ c y, h' c y ≠ none → y ∈ ts ++ [x]) := fun c y hy => by
            rcases HTK.out.some hy with h1 | ⟨rfl, _⟩
            · exact List.mem_append_left _ (HALL.out c y h1)
            · simp
          clear hT t4 kc x0 x1 x2 HX3 HA3 HT8
          obtain ⟨x0, x1, x2, -⟩ := HX4.out.cells
          by_cases hr : r = 0
          · subst hr
            have HA5 := HA4
            have HX5 := HX4
            clear HA4 HX4
            generalize w4 = w5 at *
            go_wp2_with (at_builtin; refine wpList_append_text rfl (.tmp 65) (.tmp 68) rfl w.heap.size (.slice a4 ts.length c4) ts rfl ((HA5.out.all ((Kept.refl _ _).alloc _)).t4) (Nat.le_trans HA5.out.tm.kept.size (by simp)) w5.heap.size rfl x (0, 0) (heap_alloc_new w5 _) (by have := HN.out; omega) ?_; intro ao1 cap1 w7 tt1 g1 at1; have HA7 : Hid (AlK w w7 T (n + l'.length) B' h' (.slice ao1 (ts.length + 1) cap1) (.slice a5 ns.length c5) (ts ++ [x]) ns) := HA5.out.more4 HXS.out tt1 g1 at1; have HX7 : Hid (Xk w7 X kind x wa l'.length wp) := HA5.out.xk4 g1 HX5.out; clear tt1 g1 at1 x0 x1 x2 HX5)
            go_loopw [5, 10] (fun t5 t10 wr => ∃ (k : Nat) (ns2 : List (List UInt8)), k ≤ l'.length ∧ t10 = .int .i64 (k : Nat) ∧ AlK w wr T (n + l'.length) B' h' (.slice ao1 (ts.length + 1) cap1) t5 (ts ++ [x]) ns2 ∧ ns2.length = ns.length + k ∧ Xk wr X kind x wa l'.length wp) (fun _ t10 _ => l'.length - (intOf t10).toNat)
            case atStart => exact ⟨0, ns, Nat.zero_le _, rfl, HA7.out, rfl, HX7.out⟩
            case round =>
              obtain ⟨k, ns2, hk, rfl, hA, hn2, hx⟩ := hrel
              have HA8 : Hid (AlK w wr T (n + l'.length) B' h' (.slice ao1 (ts.length + 1) cap1) u5 (ts ++ [x]) ns2) := hA
              have HX8 : Hid (Xk wr X kind x wa l'.length wp) := hx
              have HN2 : Hid (ns2.length = ns.length + k) := hn2
              obtain ⟨a6, c6, rfl, -, -⟩ := hA.t5.shape
              obtain ⟨x0, x1, x2, -⟩ := hx.cells
              clear hA hx hn2
              have kb : (k : Int) ≤ 6 := by omega
              by_cases hlt : k < l'.length
              · obtain ⟨wa', wp', e, hc⟩ := HW.out.all HA8.out.tm.kept
                have e1 : wa = wa' := by injection e
                subst e1
                obtain ⟨b2, off2, rfl, hcs⟩ := hc (by omega)
                obtain ⟨q0, -⟩ := hcs k hlt
                have hyl := HLS.out l'[k] (List.getElem_mem hlt)
                have k1 : (k : Int) < (l'.length : Int) := by omega
                have k0 : (0 : Int) ≤ (k : Int) := by omega
                clear hc hcs e
                generalize l'[k] = z at *
                obtain ⟨y, wy⟩ := z
                simp only at q0 hyl
                go_wp2_with (at_builtin; refine wpList_append_text rfl (.tmp 77) (.tmp 84) rfl w.heap.size (.slice a6 ns2.length c6) ns2 rfl ((HA8.out.all ((Kept.refl _ _).alloc _)).t5) (Nat.le_trans HA8.out.tm.kept.size (by simp)) wr.heap.size rfl y (0, 0) (heap_alloc_new wr _) (by have := HN.out; have := HN2.out; omega) ?_; intro ao2 cap2 w8 tt2 g2 at2; have HA9 : Hid (AlK w w8 T (n + l'.length) B' h' (.slice ao1 (ts.length + 1) cap1) (.slice ao2 (ns2.length + 1) cap2) (ts ++ [x]) (ns2 ++ [y])) := HA8.out.more5 hyl tt2 g2 at2; have HX9 : Hid (Xk w8 X kind x (some ⟨b2, off2, none⟩) l'.length wp) := HA8.out.xk5 g2 HX8.out; clear tt2 g2 at2 x0 x1 x2 HX8)
                go_roundw
                case rel => exact ⟨k + 1, ns2 ++ [y], by omega, by go_num, HA9.out, by have := HN2.out; simp; omega, HX9.out⟩
                case measure => simp [intOf]; omega
              · have k1 : ¬ (k : Int) < (l'.length : Int) := by omega
                go_wp2_with fail
                go_meet
                exact ⟨_, B', h', _, ns2, HA8.out, HAL.out, by have := HN.out; omega, by have := HN.out; simp; omega, by have := HN.out; have := HN2.out; omega⟩
          · have hr1 : (r != 0) = true := by simpa using hr
            have hrh : h' = h := HTK.out.refused hr
            have ch := held_any HA4.out.tm.tb HXS.out (by have := HN.out; omega)
            clear hr
            go_wp2_with fail
            refine Calls.mono ch ?_
            rintro e w6 ⟨v9, us9, rfl, hel, hul, xt9, k6⟩
            clear ch
            obtain rfl : us9 = us8 := by
              rw [hrh] at hel
              exact hel.unique HT84.out.2.1
            have cx := texts_yesK (HT84.out.1.kept k6 (fun _ _ => trivial)) xt9 (by have := HN.out; have := HT84.out.2.2; omega)
            have HA6 : Hid (AlK w w6 T (n + l'.length) B' h' (.slice a4 ts.length c4) (.slice a5 ns.length c5) ts ns) := HA4.out.all k6
            have HX6 : Hid (Xk w6 X kind x wa l'.length wp) := HX4.out.calm (Calm.of k6)
            clear k6 xt9 hel hul hrh x0 x1 x2
            go_wp2_with fail
            refine Calls.mono cx ?_
            rintro e w5 ⟨rfl, k5⟩
            clear cx
            have HA5 : Hid (AlK w w5 T (n + l'.length) B' h' (.slice a4 ts.length c4) (.slice a5 ns.length c5) ts ns) := HA6.out.all k5
            have HX5 : Hid (Xk w5 X kind x wa l'.length wp) := HX6.out.calm (Calm.of k5)
            clear k5 HA6 HX6 HA4 HX4
            obtain ⟨x0, x1, x2, -⟩ := HX5.out.cells
            go_wp2_with (at_builtin; refine wpList_append_text rfl (.tmp 65) (.tmp 68) rfl w.heap.size (.slice a4 ts.length c4) ts rfl ((HA5.out.all ((Kept.refl _ _).alloc _)).t4) (Nat.le_trans HA5.out.tm.kept.size (by simp)) w5.heap.size rfl x (0, 0) (heap_alloc_new w5 _) (by have := HN.out; omega) ?_; intro ao1 cap1 w7 tt1 g1 at1; have HA7 : Hid (AlK w w7 T (n + l'.length) B' h' (.slice ao1 (ts.length + 1) cap1) (.slice a5 ns.length c5) (ts ++ [x]) ns) := HA5.out.more4 HXS.out tt1 g1 at1; have HX7 : Hid (Xk w7 X kind x wa l'.length wp) := HA5.out.xk4 g1 HX5.out; clear tt1 g1 at1 x0 x1 x2 HX5)
            go_loopw [5, 10] (fun t5 t10 wr => ∃ (k : Nat) (ns2 : List (List UInt8)), k ≤ l'.length ∧ t10 = .int .i64 (k : Nat) ∧ AlK w wr T (n + l'.length) B' h' (.slice ao1 (ts.length + 1) cap1) t5 (ts ++ [x]) ns2 ∧ ns2.length = ns.length + k ∧ Xk wr X kind x wa l'.length wp) (fun _ t10 _ => l'.length - (intOf t10).toNat)
            case atStart => exact ⟨0, ns, Nat.zero_le _, rfl, HA7.out, rfl, HX7.out⟩
            case round =>
              obtain ⟨k, ns2, hk, rfl, hA, hn2, hx⟩ := hrel
              have HA8 : Hid (AlK w wr T (n + l'.length) B' h' (.slice ao1 (ts.length + 1) cap1) u5 (ts ++ [x]) ns2) := hA
              have HX8 : Hid (Xk wr X kind x wa l'.length wp) := hx
              have HN2 : Hid (ns2.length = ns.length + k) := hn2
              obtain ⟨a6, c6, rfl, -, -⟩ := hA.t5.shape
              obtain ⟨x0, x1, x2, -⟩ := hx.cells
              clear hA hx hn2
              have kb : (k : Int) ≤ 6 := by omega
              by_cases hlt : k < l'.length
              · obtain ⟨wa', wp', e, hc⟩ := HW.out.all HA8.out.tm.kept
                have e1 : wa = wa' := by injection e
                subst e1
                obtain ⟨b2, off2, rfl, hcs⟩ := hc (by omega)
                obtain ⟨q0, -⟩ := hcs k hlt
                have hyl := HLS.out l'[k] (List.getElem_mem hlt)
                have k1 : (k : Int) < (l'.length : Int) := by omega
                have k0 : (0 : Int) ≤ (k : Int) := by omega
                clear hc hcs e
                generalize l'[k] = z at *
                obtain ⟨y, wy⟩ := z
                simp only at q0 hyl
                go_wp2_with (at_builtin; refine wpList_append_text rfl (.tmp 77) (.tmp 84) rfl w.heap.size (.slice a6 ns2.length c6) ns2 rfl ((HA8.out.all ((Kept.refl _ _).alloc _)).t5) (Nat.le_trans HA8.out.tm.kept.size (by simp)) wr.heap.size rfl y (0, 0) (heap_alloc_new wr _) (by have := HN.out; have := HN2.out; omega) ?_; intro ao2 cap2 w8 tt2 g2 at2; have HA9 : Hid (AlK w w8 T (n + l'.length) B' h' (.slice ao1 (ts.length + 1) cap1) (.slice ao2 (ns2.length + 1) cap2) (ts ++ [x]) (ns2 ++ [y])) := HA8.out.more5 hyl tt2 g2 at2; have HX9 : Hid (Xk w8 X kind x (some ⟨b2, off2, none⟩) l'.length wp) := HA8.out.xk5 g2 HX8.out; clear tt2 g2 at2 x0 x1 x2 HX8)
                go_roundw
                case rel => exact ⟨k + 1, ns2 ++ [y], by omega, by go_num, HA9.out, by have := HN2.out; simp; omega, HX9.out⟩
                case measure => simp [intOf]; omega
              · have k1 : ¬ (k : Int) < (l'.length : Int) := by omega
                go_wp2_with fail
                go_meet
                exact ⟨_, B', h', _, ns2, HA8.out, HAL.out, by have := HN.out; omega, by have := HN.out; simp; omega, by have := HN.out; have := HN2.out; omega⟩
        · have hk1 : (kind == 1) = false := beq_eq_false_iff_ne.2 hk
          have cf := free_tm HA3.out.tm HXS.out (by have := HN.out; omega)
          clear hk
          go_wp2_with fail
          refine Calls.mono cf ?_
          rintro e w4 ⟨q, B', rfl, -, t4, kc⟩
          clear cf
          have HA4 : Hid (AlK w w4 T n B' (freed h x) (.slice a4 ts.length c4) (.slice a5 ns.length c5) ts ns) := HA3.out.step t4 kc
          clear t4 kc
          go_wp2_with fail
          go_meet
          exact ⟨n, B', _, ts, ns, HA4.out, fun c y hy => HALL.out c y (freed_none.1 hy).1, by have := HN.out; omega, by have := HN.out; omega, by have := HN.out; omega⟩
      case rest =>
      obtain ⟨n', B', h', ts', ns', hA, hall, hn', hts', hns'⟩ := hcut
      clear HA3 HX3 HT8 x0 x1 x2 HXS HLS HALL HW HCAP
      have HA4 : Hid (AlK w wc T n' B' h' u4 u5 ts' ns') := hA
      have HALL : Hid (∀ c y, h' c y ≠ none → y ∈ ts') := hall
      have HN' : Hid (n' ≤ 6 * (i + 1) ∧ ts'.length ≤ i + 1 ∧ ns'.length ≤ 6 * (i + 1)) := ⟨hn', hts', hns'⟩
      obtain ⟨a4', c4', rfl, -, -⟩ := hA.t4.shape
      obtain ⟨a5', c5', rfl, -, hg5⟩ := hA.t5.shape
      have HG5 : Hid (0 < ns'.length → ∃ g, a5' = some ⟨g, 0, none⟩) := hg5
      clear hA hall hn' hts' hns' hg5
      generalize wc = w4 at *
      go_wp2_with fail
      go_loopw [11, 12, 13, 14] (fun t11 _ _ _ wr => ∃ k : Nat, k ≤ ns'.length ∧ t11 = .int .i64 (k : Nat) ∧ AlK w wr T n' B' h' (.slice a4' ts'.length c4') (.slice a5' ns'.length c5') ts' ns') (fun t11 _ _ _ _ => ns'.length - (intOf t11).toNat)
      case atStart => exact ⟨0, Nat.zero_le _, rfl, HA4.out⟩
      case round =>
        obtain ⟨k, hk, rfl, hA⟩ := hrel
        have HAk : Hid (AlK w wr T n' B' h' (.slice a4' ts'.length c4') (.slice a5' ns'.length c5') ts' ns') := hA
        clear hA
        by_cases hlt : k < ns'.length
        · obtain ⟨g, rfl⟩ := HG5.out (by omega)
          have q0 := HAk.out.t5.cell k hlt
          have k1 : (k : Int) < (ns'.length : Int) := by omega
          have k0 : (0 : Int) ≤ (k : Int) := by omega
          have kb : (k : Int) ≤ 1000 := by have := HN'.out; omega
          have hcl := HAk.out.sh5 ns'[k] (List.getElem_mem hlt)
          have cW := writer_any HAk.out.tm.tb HAk.out.tm.alone hcl (by have := HN'.out; omega)
          have HQ : Hid (∀ W, Kept (fun _ => True) wr W → W.cell? ⟨g, k, none⟩ = some (.string ⟨(ns'[k]).toArray⟩)) := fun W kk => cell_kept kk q0 trivial
          generalize ns'[k] = y at *
          go_wp2_with fail
          refine Calls.mono cW ?_
          rintro e w5 ⟨v, ok, rfl, hw, k5⟩
          clear cW q0
          have q1 := HQ.out w5 k5
          have HWr : Hid (Writes h' y v ok) := hw
          have HA5 : Hid (AlK w w5 T n' B' h' (.slice a4' ts'.length c4') (.slice (some ⟨g, 0, none⟩) ns'.length c5') ts' ns') := HAk.out.all k5
          have ch := holders_any HA5.out.tm.tb hcl (by have := HN'.out; omega)
          clear hw k5 HAk HQ
          go_wp2_with fail
          refine Calls.mono ch ?_
          rintro e w6 ⟨vh, us, rfl, hus, hul, xt, k6⟩
          clear ch
          have HA6 : Hid (AlK w w6 T n' B' h' (.slice a4' ts'.length c4') (.slice (some ⟨g, 0, none⟩) ns'.length c5') ts' ns') := HA5.out.all k6
          cases ok with
          | true =>
            have hv : h' y v = some true := by
              rcases HWr.out with ⟨_, h1⟩ | ⟨h1, _⟩
              · exact h1
              · cases h1
            obtain rfl : us = [v] := hus.one HA5.out.tm.alone hv
            obtain ⟨ah, cp, rfl, -, hg⟩ := xt.shape
            obtain ⟨gh, rfl⟩ := hg (by simp)
            have q2 := xt.cell 0 (by simp)
            change w6.cell? _ = some (.string ⟨v.toArray⟩) at q2
            change Hid (AlK w w6 T n' B' h' _ _ ts' ns') at HA6
            have e1 : ([v] : List (List UInt8)).length = 1 := rfl
            rw [e1]
            clear hus hul xt k6 hv hg HWr HA5 q1
            go_wp2_with fail
            go_roundw
            case rel => exact ⟨k + 1, by omega, by go_num, HA6.out⟩
            case measure => simp [intOf]; omega
          | false =>
            obtain ⟨ah, cp, rfl, -, -⟩ := xt.shape
            clear hus hul xt k6 HWr HA5 q1
            go_wp2_with fail
            go_roundw
            case rel => exact ⟨k + 1, by omega, by go_num, HA6.out⟩
            case measure => simp [intOf]; omega
        · have k1 : ¬ (k : Int) < (ns'.length : Int) := by omega
          go_wp2_with fail
          go_roundw
          case rel => exact ⟨i + 1, n', B', h', ts', ns', by omega, by go_num, HAk.out, HALL.out, HN'.out.1, HN'.out.2.1, HN'.out.2.2⟩
          case measure => simp [intOf]; omega
    · have HG4 : Hid (0 < ts.length → ∃ g, a4 = some ⟨g, 0, none⟩) := by
        obtain ⟨ao, cp, e, _, hg⟩ := HA.out.t4.shape
        cases e
        exact hg
      have HS : Hid (n ≤ 1000000 ∧ ts.length ≤ 1000000) := by have := HN.out; exact ⟨by omega, by omega⟩
      go_upto_region 6 with fail
      go_cut [26] from 19 to 25 (fun t wx => t = .bool false ∧ wx = wr)
      case first =>
        by_cases h1 : i < len
        · have i1 : (i : Int) < (len : Int) := by omega
          have i2 : ¬ (i : Int) < 40 := by omega
          go_wp2_with fail
          go_meet
          exact ⟨rfl, rfl⟩
        · have i1 : ¬ (i : Int) < (len : Int) := by omega
          go_wp2_with fail
          go_meet
          exact ⟨rfl, rfl⟩
      case rest =>
      obtain ⟨rfl, rfl⟩ := hcut
      clear hlt HI HN
      go_wp2_with fail
      generalize wc = w2 at *
      go_loopw [15] (fun t15 wr => ∃ (j : Nat) (B' : Lab → Option Nat) (h' : Lk), j ≤ ts.length ∧ t15 = .int .i64 (j : Nat) ∧ TM w wr T n B' h' ∧ Txs wr w.heap.size (.slice a4 ts.length c4) ts ∧ (∀ c y, h' c y ≠ none → y ∈ ts.drop j)) (fun t15 _ => ts.length - (intOf t15).toNat)
      case atStart => exact ⟨0, B, h, Nat.zero_le _, rfl, HA.out.tm, HA.out.t4, fun c y hy => by rw [List.drop_zero]; exact HALL.out c y hy⟩
      case round =>
        obtain ⟨j, B', h', hj, rfl, htm, htx, hal⟩ := hrel
        have HTM : Hid (TM w wr T n B' h') := htm
        have HTX : Hid (Txs wr w.heap.size (.slice a4 ts.length c4) ts) := htx
        have HAL : Hid (∀ c y, h' c y ≠ none → y ∈ ts.drop j) := hal
        clear htm htx hal
        by_cases hlt : j < ts.length
        · obtain ⟨g, rfl⟩ := HG4.out (by omega)
          have q0 := HTX.out.cell j hlt
          have j1 : (j : Int) < (ts.length : Int) := by omega
          have j0 : (0 : Int) ≤ (j : Int) := by omega
          have jb : (j : Int) ≤ 1000000 := by have := HS.out; omega
          have cf := free_tm HTM.out (HA.out.sh4 ts[j] (List.getElem_mem hlt)) HS.out.1
          have HD : Hid (∀ y, y ∈ ts.drop j → y ≠ ts[j] → y ∈ ts.drop (j + 1)) := fun y h1 h2 => drop_in hlt h1 h2
          generalize ts[j] = y at *
          go_wp2_with fail
          refine Calls.mono cf ?_
          rintro e w3 ⟨q, B2, rfl, -, t3, kc⟩
          clear cf
          have HT3 : Hid (TM w w3 T n B2 (freed h' y)) := t3
          have HX3 : Hid (Txs w3 w.heap.size (.slice (some ⟨g, 0, none⟩) ts.length c4) ts) := kc.txs HTX.out
          clear t3 kc q0
          go_wp2_with fail
          go_roundw
          case rel => exact ⟨j + 1, B2, _, by omega, by go_num, HT3.out, HX3.out, fun c y' hy => by
            obtain ⟨h1, h2⟩ := freed_none.1 hy
            exact HD.out y' (HAL.out c y' h1) h2⟩
          case measure => simp [intOf]; omega
        · have j1 : ¬ (j : Int) < (ts.length : Int) := by omega
          have ca := all_any HTM.out.tb HS.out.1
          have HE : Hid (∀ c y, h' c y = none) := fun c y => Classical.byContradiction fun hy => by
            have := HAL.out c y hy
            rw [List.drop_eq_nil_of_le (by omega)] at this
            simp at this
          clear HAL
          go_wp2_with fail
          refine Calls.mono ca ?_
          rintro e w3 ⟨v, us, rfl, hus, -, xt, k3⟩
          clear ca
          obtain rfl : us = [] := by
            cases us with
            | nil => rfl
            | cons y l =>
              obtain ⟨c, hc⟩ := (hus.2 y).1 (List.mem_cons_self ..)
              exact absurd (HE.out c y) hc
          obtain ⟨ao, cp, rfl, -, -⟩ := xt.shape
          have HK : Hid (Kept (fun _ => True) w w3) := HTM.out.kept.trans k3
          have ck := known_any (w := w3)
          have e1 : ([] : List (List UInt8)).length = 0 := rfl
          rw [e1]
          clear hus xt k3
          go_wp2_with fail
          refine Calls.mono ck ?_
          rintro e w4 ⟨rfl, k4⟩
          clear ck
          go_wp2_with fail
          go_ret
          exact ⟨rfl, HK.out.trans k4⟩

end Go.Proofs.Ytkinpgkckbocpaa
