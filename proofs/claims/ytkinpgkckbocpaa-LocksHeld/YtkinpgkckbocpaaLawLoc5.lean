/-
  LocksHeld: its walk.
-/
import Derived.Test.YtkinpgkckbocpaaKHas
import Derived.Test.YtkinpgkckbocpaaVOrd
import Derived.Laws.Cover1
namespace Go.Proofs.Ytkinpgkckbocpaa
open Go.RowKit

set_option maxRecDepth 100000 in
set_option maxHeartbeats 16000000 in
theorem locksHeld_any {w : World} {a : Option Addr} {len cap : Nat} (h : IsAsks w a len) :
    Calls Try.prog 7 #[.slice a len cap] w fun e w' => e = .returned (.bool true) ∧ Kept (fun _ => True) w w' := by
  have HI : Hid (IsAsks w a len) := h
  clear h
  have cn := new_tm (w := w)
  go_enter Try.func7, Try.ntmps7
  go_wp2_with fail
  refine Calls.mono cn ?_
  rintro e w1 ⟨T, B0, rfl, t1⟩
  clear cn
  have HT1 : Hid (TM w w1 T 0 B0 (fun _ _ => none)) := t1
  clear t1
  go_wp2_with fail
  go_loopw [4, 5, 6, 7] (fun t4 t5 _ _ wr => ∃ (i n : Nat) (B : Lab → Option Nat) (h : Lk) (ns : List (List UInt8)), i ≤ 30 ∧ t5 = .int .i64 (i : Nat) ∧ AlK w wr T n B h (.slice none 0 0) t4 [] ns ∧ (∀ c y, h c y ≠ none → c ∈ ns) ∧ n ≤ 6 * i ∧ ns.length ≤ 6 * i) (fun _ t5 _ _ _ => 30 - (intOf t5).toNat)
  case atStart => exact ⟨0, 0, B0, _, [], Nat.zero_le _, rfl, ⟨HT1.out, Txs.nil _ _, Txs.nil _ _, fun k hk => by simp [Value.ownBlock] at hk, by simp, by simp⟩, fun c y e => absurd rfl e, Nat.le_refl _, Nat.le_refl _⟩
  case round =>
    obtain ⟨i, n, B, h, ns, hi, rfl, hA, hall, hn, hns⟩ := hrel
    clear HT1
    have HA : Hid (AlK w wr T n B h (.slice none 0 0) u4 [] ns) := hA
    have HALL : Hid (∀ c y, h c y ≠ none → c ∈ ns) := hall
    have HN : Hid (n ≤ 6 * i ∧ ns.length ≤ 6 * i) := ⟨hn, hns⟩
    clear hall hn hns
    obtain ⟨a5, c5, rfl, -, -⟩ := hA.t5.shape
    clear hA
    by_cases hlt : i < len ∧ i < 30
    · obtain ⟨hl1, hl2⟩ := hlt
      obtain ⟨b, off, z, rfl, c0, c1, c2, hz⟩ := ask_at HI.out hl1 HA.out.tm.kept
      obtain ⟨kind, x, l, wa, wp⟩ := z
      simp only at c0 c1 c2
      obtain ⟨l', hl', hle, hwn', hcase⟩ := want_cut 6 hz.wn hz.nil hz.cap
      simp only at hcase hle hwn'
      have HX1 : Hid (Xk (wr.alloc (.cells #[.int .i64 kind, .string ⟨x.toArray⟩, .slice wa l.length wp] 43)) wr.heap.size kind x wa l.length wp) := heap_alloc_new wr _
      obtain ⟨x0, x1, x2, x3⟩ := HX1.out.cells
      have HW : Hid (Wn w (.slice wa l'.length wp) l') := hwn'
      have h66 : (6 : Int) < (l.length : Int) → l'.length = 6 := fun h => by rw [hle, List.length_take]; omega
      have HXS : Hid (x.length ≤ 9223372036854775807) := hz.short
      have HLS : Hid (∀ y ∈ l', y.1.length ≤ 9223372036854775807) := fun y hy => hz.shorts y (by rw [hle] at hy; exact List.mem_of_mem_take hy)
      have HCAP : Hid (l.length ≤ wp) := hz.cap
      have i1 : (i : Int) < (len : Int) := by omega
      have i0 : (0 : Int) ≤ (i : Int) := by omega
      have i40 : (i : Int) < 30 := by omega
      clear hz hwn' hle
      go_upto_if 35 with fail
      go_cut [] from 32 to 39 (fun wx => Xk wx wr.heap.size kind x wa l'.length wp ∧ Kept (fun _ => True) wr wx)
      case first =>
        rcases hcase with ⟨h6, hsl⟩ | ⟨h6, rfl⟩
        · have h6c : (6 : Int) ≤ (wp : Int) := by have := HCAP.out; omega
          go_wp2_with fail
          go_meet
          exact ⟨by rw [h66 h6]; exact heap_alloc_new wr _, (Kept.refl _ _).alloc _⟩
        · go_wp2_with fail
          go_meet
          exact ⟨HX1.out, (Kept.refl _ _).alloc _⟩
      case rest =>
      obtain ⟨hx2, k2⟩ := hcut
      clear hcase x0 x1 x2 x3 c0 c1 c2 HX1 h66
      have HX3 : Hid (Xk wc wr.heap.size kind x wa l'.length wp) := hx2
      have HA3 : Hid (AlK w wc T n B h (.slice none 0 0) (.slice a5 ns.length c5) [] ns) := HA.out.all k2
      clear k2 hx2 HA
      generalize wc = w3 at *
      obtain ⟨x0, x1, x2, -⟩ := HX3.out.cells
      generalize wr.heap.size = X at *
      by_cases hk : kind = 1
      · have hk1 : (kind == 1) = true := by simp [hk]
        have ct := take_tm HA3.out.tm HXS.out (HW.out.all HA3.out.tm.kept) HLS.out (by have := HN.out; omega)
        clear hk
        go_wp2_with fail
        refine Calls.mono ct ?_
        rintro e w4 ⟨r, h', B', rfl, hT, t4, kc⟩
        clear ct
        have HTK : Hid (Takes h x l' r h') := hT
        have HA4 : Hid (AlK w w4 T (n + l'.length) B' h' (.slice none 0 0) (.slice a5 ns.length c5) [] ns) := HA3.out.step t4 kc
        have HX4 : Hid (Xk w4 X kind x wa l'.length wp) := HX3.out.calm kc
        clear hT t4 kc x0 x1 x2 HX3 HA3
        go_wp2_with fail
        go_loopw [4, 7] (fun t4 t7 wr => ∃ (k : Nat) (ns2 : List (List UInt8)), k ≤ l'.length ∧ t7 = .int .i64 (k : Nat) ∧ AlK w wr T (n + l'.length) B' h' (.slice none 0 0) t4 [] ns2 ∧ ns2.length = ns.length + k ∧ Xk wr X kind x wa l'.length wp ∧ (∀ c ∈ ns, c ∈ ns2) ∧ (∀ y ∈ l'.take k, y.1 ∈ ns2)) (fun _ t7 _ => l'.length - (intOf t7).toNat)
        case atStart => exact ⟨0, ns, Nat.zero_le _, rfl, HA4.out, rfl, HX4.out, fun _ h => h, by simp⟩
        case round =>
          obtain ⟨k, ns2, hk, rfl, hA, hn2, hx, hs1, hs2⟩ := hrel
          have HA8 : Hid (AlK w wr T (n + l'.length) B' h' (.slice none 0 0) u4 [] ns2) := hA
          have HX8 : Hid (Xk wr X kind x wa l'.length wp) := hx
          have HN2 : Hid (ns2.length = ns.length + k) := hn2
          have HS1 : Hid (∀ c ∈ ns, c ∈ ns2) := hs1
          have HS2 : Hid (∀ y ∈ l'.take k, y.1 ∈ ns2) := hs2
          obtain ⟨a6, c6, rfl, -, -⟩ := hA.t5.shape
          obtain ⟨x0, x1, x2, -⟩ := hx.cells
          clear hA hx hn2 hs1 hs2
          have kb : (k : Int) ≤ 6 := by omega
          by_cases hlt : k < l'.length
          · obtain ⟨wa', wp', e, hc⟩ := HW.out.all HA8.out.tm.kept
            have e1 : wa = wa' := by injection e
            subst e1
            obtain ⟨b2, off2, rfl, hcs⟩ := hc (by omega)
            obtain ⟨q0, -⟩ := hcs k hlt
            have hyl := HLS.out l'[k] (List.getElem_mem hlt)
            have HTK2 : Hid (l'.take (k + 1) = l'.take k ++ [l'[k]]) := List.take_succ_eq_append_getElem hlt
            have k1 : (k : Int) < (l'.length : Int) := by omega
            have k0 : (0 : Int) ≤ (k : Int) := by omega
            clear hc hcs e
            generalize l'[k] = z at *
            obtain ⟨y, wy⟩ := z
            simp only at q0 hyl
            go_wp2_with (at_builtin; refine wpList_append_text rfl (.tmp 56) (.tmp 63) rfl w.heap.size (.slice a6 ns2.length c6) ns2 rfl ((HA8.out.all ((Kept.refl _ _).alloc _)).t5) (Nat.le_trans HA8.out.tm.kept.size (by simp)) wr.heap.size rfl y (0, 0) (heap_alloc_new wr _) (by have := HN.out; have := HN2.out; omega) ?_; intro ao2 cap2 w8 tt2 g2 at2; have HA9 : Hid (AlK w w8 T (n + l'.length) B' h' (.slice none 0 0) (.slice ao2 (ns2.length + 1) cap2) [] (ns2 ++ [y])) := HA8.out.more5 hyl tt2 g2 at2; have HX9 : Hid (Xk w8 X kind x (some ⟨b2, off2, none⟩) l'.length wp) := HA8.out.xk5 g2 HX8.out; clear tt2 g2 at2 x0 x1 x2 HX8)
            go_roundw
            case rel =>
              refine ⟨k + 1, ns2 ++ [y], by omega, by go_num, HA9.out, by have := HN2.out; simp; omega, HX9.out, fun c hc => List.mem_append_left _ (HS1.out c hc), fun u hu => ?_⟩
              rw [HTK2.out, List.mem_append, List.mem_singleton] at hu
              rcases hu with hu | rfl
              · exact List.mem_append_left _ (HS2.out u hu)
              · simp
            case measure => simp [intOf]; omega
          · have k1 : ¬ (k : Int) < (l'.length : Int) := by omega
            go_wp2_with fail
            go_roundw
            case rel =>
              refine ⟨i + 1, _, B', h', ns2, by omega, by go_num, HA8.out, fun c y hy => ?_, by have := HN.out; omega, by have := HN.out; have := HN2.out; omega⟩
              rcases HTK.out.some hy with h1 | ⟨_, z, hz, rfl⟩
              · exact HS1.out c (HALL.out c y h1)
              · exact HS2.out z (by rw [List.take_of_length_le (by omega)]; exact hz)
            case measure => simp [intOf]; omega
      · have hk1 : (kind == 1) = false := beq_eq_false_iff_ne.2 hk
        have cf := free_tm HA3.out.tm HXS.out (by have := HN.out; omega)
        clear hk
        go_wp2_with fail
        refine Calls.mono cf ?_
        rintro e w4 ⟨q, B', rfl, -, t4, kc⟩
        clear cf
        have HA4 : Hid (AlK w w4 T n B' (freed h x) (.slice none 0 0) (.slice a5 ns.length c5) [] ns) := HA3.out.step t4 kc
        clear t4 kc
        go_wp2_with fail
        go_roundw
        case rel => exact ⟨i + 1, n, B', _, ns, by omega, by go_num, HA4.out, fun c y hy => HALL.out c y (freed_none.1 hy).1, by have := HN.out; omega, by have := HN.out; omega⟩
        case measure => simp [intOf]; omega
    · go_upto_region 6 with fail
      go_cut [25] from 18 to 24 (fun t wx => t = .bool false ∧ wx = wr)
      case first =>
        by_cases h1 : i < len
        · have i1 : (i : Int) < (len : Int) := by omega
          have i2 : ¬ (i : Int) < 30 := by omega
          go_wp2_with fail
          go_meet
          exact ⟨rfl, rfl⟩
        · have i1 : ¬ (i : Int) < (len : Int) := by omega
          go_wp2_with fail
          go_meet
          exact ⟨rfl, rfl⟩
      case rest =>
      obtain ⟨rfl, rfl⟩ := hcut
      have ca := all_any HA.out.tm.tb (by have := HN.out; omega)
      clear hlt HI
      go_wp2_with fail
      refine Calls.mono ca ?_
      rintro e w2 ⟨va, us, rfl, hus, hul, xt, k2⟩
      clear ca
      obtain ⟨a8, c8, rfl, -, hg8⟩ := xt.shape
      have HG8 : Hid (0 < us.length → ∃ g, a8 = some ⟨g, 0, none⟩) := hg8
      have HG4 : Hid (0 < ns.length → ∃ g, a5 = some ⟨g, 0, none⟩) := by
        obtain ⟨ao, cp, e, _, hg⟩ := HA.out.t5.shape
        cases e
        exact hg
      have HLK : Hid (LookK w w2 T n B h (.slice a5 ns.length c5) (.slice a8 us.length c8) ns us) := ⟨HA.out.tm.all k2, HA.out.t5.kept k2 (fun _ _ => trivial), row_base xt HA.out.tm.kept.size, hus, HALL.out, by have := HN.out; omega, HA.out.sh5⟩
      clear hus hul xt k2 hg8 HA HALL HN
      go_wp2_with fail
      go_loopw [9, 10, 11] (fun t9 _ _ wr => ∃ i : Nat, i ≤ us.length ∧ t9 = .int .i64 (i : Nat) ∧ LookK w wr T n B h (.slice a5 ns.length c5) (.slice a8 us.length c8) ns us) (fun t9 _ _ _ => us.length - (intOf t9).toNat)
      case atStart => exact ⟨0, Nat.zero_le _, rfl, HLK.out⟩
      case round =>
        obtain ⟨p, hp, rfl, hL⟩ := hrel
        have HLp : Hid (LookK w wr T n B h (.slice a5 ns.length c5) (.slice a8 us.length c8) ns us) := hL
        clear hL
        have pb : (p : Int) ≤ 1000 := by have := HLp.out.few; omega
        by_cases hlt : p < us.length
        · obtain ⟨g8, rfl⟩ := HG8.out (by omega)
          have q0 := HLp.out.all.cell p hlt
          have p1 : (p : Int) < (us.length : Int) := by omega
          have p0 : (0 : Int) ≤ (p : Int) := by omega
          obtain ⟨cc, hcc⟩ := (HLp.out.als.2 us[p]).1 (List.getElem_mem hlt)
          have HC : Hid (∃ c, h c us[p] ≠ none) := ⟨cc, hcc⟩
          have ch := held_any HLp.out.tm.tb (HLp.out.tm.short cc us[p] hcc).2 (by have := HLp.out.few; omega)
          have HLS : Hid (∀ (h0 : 0 < p), Op.bytesLess (us[p - 1]'(by omega)) us[p] = true) := fun h0 => rises_less HLp.out.als.1 h0 hlt
          have HPR : Hid (∀ (h0 : 0 < p) W, Kept (fun _ => True) wr W → W.cell? ⟨g8, p - 1, none⟩ = some (.string ⟨(us[p - 1]'(by omega)).toArray⟩)) := fun h0 W k => cell_kept k (HLp.out.all.cell (p - 1) (by omega)) trivial
          have HCU : Hid (∀ W, Kept (fun _ => True) wr W → W.cell? ⟨g8, p, none⟩ = some (.string ⟨us[p].toArray⟩)) := fun W k => cell_kept k q0 trivial
          clear hcc cc
          generalize us[p] = x at *
          go_wp2_with fail
          refine Calls.mono ch ?_
          rintro e w4 ⟨v10, hs, rfl, hel, hhl, xt, k4⟩
          clear ch q0
          obtain ⟨a10, c10, rfl, -, hg10⟩ := xt.shape
          have HG10 : Hid (0 < hs.length → ∃ g, a10 = some ⟨g, 0, none⟩) := hg10
          have HEL : Hid (Hel h x hs) := hel
          have HL4 : Hid (LookK w w4 T n B h (.slice a5 ns.length c5) (.slice (some ⟨g8, 0, none⟩) us.length c8) ns us) := HLp.out.on k4
          have HT4 : Hid (Txs w4 wr.heap.size (.slice a10 hs.length c10) hs) := xt
          have hl0 : 0 < hs.length := by
            obtain ⟨c, hc⟩ := HC.out
            exact List.length_pos_of_mem ((hel.2 c).2 hc)
          have hl1 : ((hs.length : Int) == 0) = false := by rw [beq_eq_false_iff_ne]; omega
          have hlb : hs.length ≤ 1000 := by have := HLp.out.few; omega
          have HK4 : Hid (Kept (fun _ => True) wr w4) := k4
          clear hel xt k4 hhl hg10
          go_upto_region 23 with fail
          go_cut [101] from 83 to 100 (fun t wx => t = .bool false ∧ Kept (fun _ => True) w4 wx)
          case first =>
            have s1 := HCU.out w4 HK4.out
            by_cases hp0 : p = 0
            · subst hp0
              go_quiet (fail)
              go_wp2_with fail
              go_meet
              exact ⟨rfl, (Kept.refl _ _).drewN _⟩
            · have hpp : (0 : Int) < (p : Int) := by omega
              have hpn : 0 < p := by omega
              have hpd : decide ((0 : Int) < (p : Int)) = true := by simp; omega
              have hpe : decide (0 < p) = true := by simp; omega
              have s2 := HPR.out (by omega) w4 HK4.out
              have s3 := HLS.out (by omega)
              generalize us[p - 1]'(by omega) = xp at *
              have s4 : (p : Int) - 1 = ((p - 1 : Nat) : Int) := by omega
              obtain ⟨pm, hpm⟩ : ∃ pm, pm = p - 1 := ⟨_, rfl⟩
              rw [← hpm] at s2 s4
              have s5 : (pm : Int) < (us.length : Int) := by omega
              have s6 : (0 : Int) ≤ (pm : Int) := by omega
              clear hpm
              go_quiet (fail)
              go_wp2_with fail
              go_meet
              exact ⟨rfl, (Kept.refl _ _).drewN _⟩
          case rest =>
          obtain ⟨rfl, k5⟩ := hcut
          have HL5 : Hid (LookK w wc T n B h (.slice a5 ns.length c5) (.slice (some ⟨g8, 0, none⟩) us.length c8) ns us) := HL4.out.on k5
          have HT5 : Hid (Txs wc wr.heap.size (.slice a10 hs.length c10) hs) := HT4.out.kept k5 (fun _ _ => trivial)
          have HC5 : Hid (∀ W, Kept (fun _ => True) wc W → W.cell? ⟨g8, p, none⟩ = some (.string ⟨x.toArray⟩)) := fun W k => HCU.out W ((HK4.out.trans k5).trans k)
          clear k5 HL4 HT4 HLS HPR HCU HK4
          generalize wc = w5 at *
          generalize wr.heap.size = S8 at *
          obtain ⟨g10, rfl⟩ := HG10.out hl0
          go_wp2_with fail
          go_loopw [11] (fun t11 wr => ∃ k : Nat, k ≤ hs.length ∧ t11 = .int .i64 (k : Nat) ∧ Kept (fun _ => True) w5 wr) (fun t11 _ => hs.length - (intOf t11).toNat)
          case atStart => exact ⟨0, Nat.zero_le _, rfl, Kept.refl _ _⟩
          case round =>
            obtain ⟨k, hk, rfl, hkk⟩ := hrel
            have HKK : Hid (Kept (fun _ => True) w5 wr) := hkk
            clear hkk
            have kb : (k : Int) ≤ 1000 := by omega
            by_cases hlt2 : k < hs.length
            · have HL6 : Hid (LookK w wr T n B h (.slice a5 ns.length c5) (.slice (some ⟨g8, 0, none⟩) us.length c8) ns us) := HL5.out.on HKK.out
              have HT6 : Hid (Txs wr S8 (.slice (some ⟨g10, 0, none⟩) hs.length c10) hs) := HT5.out.kept HKK.out (fun _ _ => trivial)
              have q0 := HT6.out.cell k hlt2
              have k1 : (k : Int) < (hs.length : Int) := by omega
              have k0 : (0 : Int) ≤ (k : Int) := by omega
              have hyx : h hs[k] x ≠ none := (HEL.out.2 hs[k]).1 (List.getElem_mem hlt2)
              have ch : ∀ W, Kept (fun _ => True) wr W → Calls Try.prog 12 #[.pointer (some ⟨T, 0, none⟩), .string ⟨hs[k].toArray⟩] W fun e w' => ∃ v gs, e = .returned v ∧ Hol h hs[k] gs ∧ gs.length ≤ n ∧ Txs w' W.heap.size v gs ∧ Kept (fun _ => True) W w' := fun W kk => holders_any (HL6.out.tm.all kk).tb (HL6.out.tm.short hs[k] x hyx).1 (by have := HL6.out.few; omega)
              have cn : ∀ W, Kept (fun _ => True) wr W → Calls Try.prog 24 #[.slice a5 ns.length c5, .string ⟨hs[k].toArray⟩] W fun e w' => e = .returned (.bool true) ∧ w' = W := fun W kk => by
                have := has_any ((HL6.out.on kk).names) (by have := HL6.out.few; omega) hs[k]
                rwa [decide_eq_true (HL6.out.named hs[k] x hyx)] at this
              have HYX : Hid (h hs[k] x ≠ none) := hyx
              have HLS : Hid (∀ (h0 : 0 < k), Op.bytesLess (hs[k - 1]'(by omega)) hs[k] = true) := fun h0 => rises_less HEL.out.1 h0 hlt2
              have HPR : Hid (∀ (h0 : 0 < k) W, Kept (fun _ => True) wr W → W.cell? ⟨g10, k - 1, none⟩ = some (.string ⟨(hs[k - 1]'(by omega)).toArray⟩)) := fun h0 W k => cell_kept k (HT6.out.cell _ (by omega)) trivial
              have r1 : ∀ W, Kept (fun _ => True) wr W → W.cell? ⟨g10, k, none⟩ = some (.string ⟨hs[k].toArray⟩) := fun W kk => cell_kept kk q0 trivial
              have r2 : ∀ W, Kept (fun _ => True) wr W → W.cell? ⟨g8, p, none⟩ = some (.string ⟨x.toArray⟩) := fun W k => HC5.out W (HKK.out.trans k)
              have HFEW : Hid (n ≤ 1000) := HL6.out.few.1
              have kd : Kept (fun _ => True) wr wr.drew := (Kept.refl _ _).drew
              clear q0 hyx
              generalize hs[k] = y at *
              have HCH : Hid (∀ W, Kept (fun _ => True) wr W → Calls Try.prog 12 #[.pointer (some ⟨T, 0, none⟩), .string ⟨y.toArray⟩] W fun e w' => ∃ v gs, e = .returned v ∧ Hol h y gs ∧ gs.length ≤ n ∧ Txs w' W.heap.size v gs ∧ Kept (fun _ => True) W w') := ch
              have HCN : Hid (∀ W, Kept (fun _ => True) wr W → Calls Try.prog 24 #[.slice a5 ns.length c5, .string ⟨y.toArray⟩] W fun e w' => e = .returned (.bool true) ∧ w' = W) := cn
              clear ch cn
              go_upto_region 28 with fail
              go_cut [144] from 108 to 143 (fun t wx => t = .bool false ∧ Kept (fun _ => True) wr wx)
              case first =>
                by_cases hk0 : k = 0
                · subst hk0
                  clear HLS HPR
                  refine Gz.begin (fun W => Kept (fun _ => True) wr W) (fun _ => false) (by kernel_rfl) ?_
                  refine Gz.take (i := 0) (oi := { dst := some 108, op := Op.move (Operand.tmp 11), type := 3, pos := _, after := #[], guard := none }) (v := ?_) rfl (by kernel_rfl) (by kernel_rfl) (by kernel_rfl) (by kernel_rfl) (fun _ _ _ h => h) (Or.inl ⟨by rfl, ?hy0⟩) kd ?_
                  case hy0 => (intro W hSw; (try dsimp only at hSw); go_simp; try with_reducible rfl)
                  try simp only [Act.put, List.setIfInBounds_toArray, List.set_cons_zero, List.set_cons_succ]
                  refine Gz.take (i := 1) (oi := { dst := some 109, op := Op.binOp BinOp.gtr 3 (Operand.tmp 108) (Operand.const (Value.int IntKind.i64 0)) 3, type := 4, pos := _, after := #[{ on := 0, ground := Ground.data }], guard := none }) (v := ?_) rfl (by kernel_rfl) (by kernel_rfl) (by kernel_rfl) (by kernel_rfl) (fun _ _ _ h => h) (Or.inl ⟨by rfl, ?hy1⟩) kd ?_
                  case hy1 => (intro W hSw; (try dsimp only at hSw); go_simp; try with_reducible rfl)
                  try simp only [Act.put, List.setIfInBounds_toArray, List.set_cons_zero, List.set_cons_succ]
                  refine Gz.take (i := 2) (oi := { dst := some 110, op := Op.move (Operand.tmp 109), type := 4, pos := _, after := #[{ on := 1, ground := Ground.data }], guard := none }) (v := ?_) rfl (by kernel_rfl) (by kernel_rfl) (by kernel_rfl) (by kernel_rfl) (fun _ _ _ h => h) (Or.inl ⟨by rfl, ?hy2⟩) kd ?_
                  case hy2 => (intro W hSw; (try dsimp only at hSw); go_simp; try with_reducible rfl)
                  try simp only [Act.put, List.setIfInBounds_toArray, List.set_cons_zero, List.set_cons_succ]
                  refine Gz.take (i := 3) (oi := { dst := some 111, op := Op.move (Operand.tmp 10), type := 32, pos := _, after := #[{ on := 2, ground := Ground.guard }], guard := some (2, true) }) (v := undef) rfl (by kernel_rfl) (by kernel_rfl) (by kernel_rfl) (by kernel_rfl) (fun _ _ _ h => h) (Or.inr ⟨by rfl, rfl⟩) kd ?_
                  try simp only [Act.put, List.setIfInBounds_toArray, List.set_cons_zero, List.set_cons_succ]
                  refine Gz.take (i := 4) (oi := { dst := some 112, op := Op.move (Operand.tmp 11), type := 3, pos := _, after := #[{ on := 2, ground := Ground.guard }], guard := some (2, true) }) (v := undef) rfl (by kernel_rfl) (by kernel_rfl) (by kernel_rfl) (by kernel_rfl) (fun _ _ _ h => h) (Or.inr ⟨by rfl, rfl⟩) kd ?_
                  try simp only [Act.put, List.setIfInBounds_toArray, List.set_cons_zero, List.set_cons_succ]
                  refine Gz.take (i := 5) (oi := { dst := some 113, op := Op.binOp BinOp.sub 3 (Operand.tmp 112) (Operand.const (Value.int IntKind.i64 1)) 3, type := 3, pos := _, after := #[{ on := 4, ground := Ground.data }, { on := 2, ground := Ground.guard }], guard := some (2, true) }) (v := undef) rfl (by kernel_rfl) (by kernel_rfl) (by kernel_rfl) (by kernel_rfl) (fun _ _ _ h => h) (Or.inr ⟨by rfl, rfl⟩) kd ?_
                  try simp only [Act.put, List.setIfInBounds_toArray, List.set_cons_zero, List.set_cons_succ]
                  refine Gz.take (i := 6) (oi := { dst := some 114, op := Op.indexAddr 32 (Operand.tmp 111) (Operand.tmp 113), type := 0, pos := _, after := #[{ on := 3, ground := Ground.data }, { on := 5, ground := Ground.data }, { on := 2, ground := Ground.guard }], guard := some (2, true) }) (v := undef) rfl (by kernel_rfl) (by kernel_rfl) (by kernel_rfl) (by kernel_rfl) (fun _ _ _ h => h) (Or.inr ⟨by rfl, rfl⟩) kd ?_
                  try simp only [Act.put, List.setIfInBounds_toArray, List.set_cons_zero, List.set_cons_succ]
                  refine Gz.take (i := 7) (oi := { dst := some 115, op := Op.load 9 (Operand.tmp 114), type := 9, pos := _, after := #[{ on := 6, ground := Ground.data }, { on := 2, ground := Ground.guard }], guard := some (2, true) }) (v := undef) rfl (by kernel_rfl) (by kernel_rfl) (by kernel_rfl) (by kernel_rfl) (fun _ _ _ h => h) (Or.inr ⟨by rfl, rfl⟩) kd ?_
                  try simp only [Act.put, List.setIfInBounds_toArray, List.set_cons_zero, List.set_cons_succ]
                  refine Gz.take (i := 8) (oi := { dst := some 116, op := Op.move (Operand.tmp 10), type := 32, pos := _, after := #[{ on := 2, ground := Ground.guard }], guard := some (2, true) }) (v := undef) rfl (by kernel_rfl) (by kernel_rfl) (by kernel_rfl) (by kernel_rfl) (fun _ _ _ h => h) (Or.inr ⟨by rfl, rfl⟩) kd ?_
                  try simp only [Act.put, List.setIfInBounds_toArray, List.set_cons_zero, List.set_cons_succ]
                  refine Gz.take (i := 9) (oi := { dst := some 117, op := Op.move (Operand.tmp 11), type := 3, pos := _, after := #[{ on := 2, ground := Ground.guard }], guard := some (2, true) }) (v := undef) rfl (by kernel_rfl) (by kernel_rfl) (by kernel_rfl) (by kernel_rfl) (fun _ _ _ h => h) (Or.inr ⟨by rfl, rfl⟩) kd ?_
                  try simp only [Act.put, List.setIfInBounds_toArray, List.set_cons_zero, List.set_cons_succ]
                  refine Gz.take (i := 10) (oi := { dst := some 118, op := Op.indexAddr 32 (Operand.tmp 116) (Operand.tmp 117), type := 0, pos := _, after := #[{ on := 8, ground := Ground.data }, { on := 9, ground := Ground.data }, { on := 2, ground := Ground.guard }], guard := some (2, true) }) (v := undef) rfl (by kernel_rfl) (by kernel_rfl) (by kernel_rfl) (by kernel_rfl) (fun _ _ _ h => h) (Or.inr ⟨by rfl, rfl⟩) kd ?_
                  try simp only [Act.put, List.setIfInBounds_toArray, List.set_cons_zero, List.set_cons_succ]
                  refine Gz.take (i := 11) (oi := { dst := some 119, op := Op.load 9 (Operand.tmp 118), type := 9, pos := _, after := #[{ on := 10, ground := Ground.data }, { on := 2, ground := Ground.guard }], guard := some (2, true) }) (v := undef) rfl (by kernel_rfl) (by kernel_rfl) (by kernel_rfl) (by kernel_rfl) (fun _ _ _ h => h) (Or.inr ⟨by rfl, rfl⟩) kd ?_
                  try simp only [Act.put, List.setIfInBounds_toArray, List.set_cons_zero, List.set_cons_succ]
                  refine Gz.take (i := 12) (oi := { dst := some 120, op := Op.binOp BinOp.geq 9 (Operand.tmp 115) (Operand.tmp 119) 9, type := 4, pos := _, after := #[{ on := 7, ground := Ground.data }, { on := 11, ground := Ground.data }, { on := 2, ground := Ground.guard }], guard := some (2, true) }) (v := undef) rfl (by kernel_rfl) (by kernel_rfl) (by kernel_rfl) (by kernel_rfl) (fun _ _ _ h => h) (Or.inr ⟨by rfl, rfl⟩) kd ?_
                  try simp only [Act.put, List.setIfInBounds_toArray, List.set_cons_zero, List.set_cons_succ]
                  refine Gz.take (i := 13) (oi := { dst := some 121, op := Op.pick (Operand.tmp 110) (Operand.tmp 120) (Operand.const (Value.bool false)), type := 4, pos := _, after := #[{ on := 2, ground := Ground.data }, { on := 12, ground := Ground.data }], guard := none }) (v := ?_) rfl (by kernel_rfl) (by kernel_rfl) (by kernel_rfl) (by kernel_rfl) (fun _ _ _ h => h) (Or.inl ⟨by rfl, ?hy13⟩) kd ?_
                  case hy13 => (intro W hSw; (try dsimp only at hSw); go_simp; try with_reducible rfl)
                  try simp only [Act.put, List.setIfInBounds_toArray, List.set_cons_zero, List.set_cons_succ]
                  refine Gz.take (i := 14) (oi := { dst := some 122, op := Op.move (Operand.tmp 121), type := 4, pos := _, after := #[{ on := 13, ground := Ground.data }, { on := 2, ground := Ground.chain }], guard := none }) (v := ?_) rfl (by kernel_rfl) (by kernel_rfl) (by kernel_rfl) (by kernel_rfl) (fun _ _ _ h => h) (Or.inl ⟨by rfl, ?hy14⟩) kd ?_
                  case hy14 => (intro W hSw; (try dsimp only at hSw); go_simp; try with_reducible rfl)
                  try simp only [Act.put, List.setIfInBounds_toArray, List.set_cons_zero, List.set_cons_succ]
                  refine Gz.take (i := 15) (oi := { dst := some 123, op := Op.move (Operand.tmp 3), type := 22, pos := _, after := #[{ on := 14, ground := Ground.guard }], guard := some (14, false) }) (v := ?_) rfl (by kernel_rfl) (by kernel_rfl) (by kernel_rfl) (by kernel_rfl) (fun _ _ _ h => h) (Or.inl ⟨by rfl, ?hy15⟩) kd ?_
                  case hy15 => (intro W hSw; (try dsimp only at hSw); go_simp; try with_reducible rfl)
                  try simp only [Act.put, List.setIfInBounds_toArray, List.set_cons_zero, List.set_cons_succ]
                  refine Gz.take (i := 16) (oi := { dst := some 124, op := Op.move (Operand.tmp 10), type := 32, pos := _, after := #[{ on := 14, ground := Ground.guard }], guard := some (14, false) }) (v := ?_) rfl (by kernel_rfl) (by kernel_rfl) (by kernel_rfl) (by kernel_rfl) (fun _ _ _ h => h) (Or.inl ⟨by rfl, ?hy16⟩) kd ?_
                  case hy16 => (intro W hSw; (try dsimp only at hSw); go_simp; try with_reducible rfl)
                  try simp only [Act.put, List.setIfInBounds_toArray, List.set_cons_zero, List.set_cons_succ]
                  refine Gz.take (i := 17) (oi := { dst := some 125, op := Op.move (Operand.tmp 11), type := 3, pos := _, after := #[{ on := 14, ground := Ground.guard }], guard := some (14, false) }) (v := ?_) rfl (by kernel_rfl) (by kernel_rfl) (by kernel_rfl) (by kernel_rfl) (fun _ _ _ h => h) (Or.inl ⟨by rfl, ?hy17⟩) kd ?_
                  case hy17 => (intro W hSw; (try dsimp only at hSw); go_simp; try with_reducible rfl)
                  try simp only [Act.put, List.setIfInBounds_toArray, List.set_cons_zero, List.set_cons_succ]
                  refine Gz.take (i := 18) (oi := { dst := some 126, op := Op.indexAddr 32 (Operand.tmp 124) (Operand.tmp 125), type := 0, pos := _, after := #[{ on := 16, ground := Ground.data }, { on := 17, ground := Ground.data }, { on := 14, ground := Ground.guard }], guard := some (14, false) }) (v := ?_) rfl (by kernel_rfl) (by kernel_rfl) (by kernel_rfl) (by kernel_rfl) (fun _ _ _ h => h) (Or.inl ⟨by rfl, ?hy18⟩) kd ?_
                  case hy18 => (intro W hSw; (try dsimp only at hSw); go_simp; try with_reducible rfl)
                  try simp only [Act.put, List.setIfInBounds_toArray, List.set_cons_zero, List.set_cons_succ]
                  refine Gz.take (i := 19) (oi := { dst := some 127, op := Op.load 9 (Operand.tmp 126), type := 9, pos := _, after := #[{ on := 18, ground := Ground.data }, { on := 14, ground := Ground.guard }], guard := some (14, false) }) (v := ?_) rfl (by kernel_rfl) (by kernel_rfl) (by kernel_rfl) (by kernel_rfl) (fun _ _ _ h => h) (Or.inl ⟨by rfl, ?hy19⟩) kd ?_
                  case hy19 => (intro W hSw; (try dsimp only at hSw); go_simp; try with_reducible rfl)
                  try simp only [Act.put, List.setIfInBounds_toArray, List.set_cons_zero, List.set_cons_succ]
                  refine Gz.take (i := 21) (oi := { dst := some 129, op := Op.move (Operand.tmp 8), type := 32, pos := _, after := #[{ on := 14, ground := Ground.guard }], guard := some (14, false) }) (v := ?_) rfl (by kernel_rfl) (by kernel_rfl) (by kernel_rfl) (by kernel_rfl) (fun _ _ _ h => h) (Or.inl ⟨by rfl, ?hy21⟩) kd ?_
                  case hy21 => (intro W hSw; (try dsimp only at hSw); go_simp; try with_reducible rfl)
                  try simp only [Act.put, List.setIfInBounds_toArray, List.set_cons_zero, List.set_cons_succ]
                  refine Gz.take (i := 22) (oi := { dst := some 130, op := Op.move (Operand.tmp 9), type := 3, pos := _, after := #[{ on := 14, ground := Ground.guard }], guard := some (14, false) }) (v := ?_) rfl (by kernel_rfl) (by kernel_rfl) (by kernel_rfl) (by kernel_rfl) (fun _ _ _ h => h) (Or.inl ⟨by rfl, ?hy22⟩) kd ?_
                  case hy22 => (intro W hSw; (try dsimp only at hSw); go_simp; try with_reducible rfl)
                  try simp only [Act.put, List.setIfInBounds_toArray, List.set_cons_zero, List.set_cons_succ]
                  refine Gz.take (i := 23) (oi := { dst := some 131, op := Op.indexAddr 32 (Operand.tmp 129) (Operand.tmp 130), type := 0, pos := _, after := #[{ on := 21, ground := Ground.data }, { on := 22, ground := Ground.data }, { on := 14, ground := Ground.guard }], guard := some (14, false) }) (v := ?_) rfl (by kernel_rfl) (by kernel_rfl) (by kernel_rfl) (by kernel_rfl) (fun _ _ _ h => h) (Or.inl ⟨by rfl, ?hy23⟩) kd ?_
                  case hy23 => (intro W hSw; (try dsimp only at hSw); go_simp; try with_reducible rfl)
                  try simp only [Act.put, List.setIfInBounds_toArray, List.set_cons_zero, List.set_cons_succ]
                  refine Gz.take (i := 24) (oi := { dst := some 132, op := Op.load 9 (Operand.tmp 131), type := 9, pos := _, after := #[{ on := 23, ground := Ground.data }, { on := 14, ground := Ground.guard }], guard := some (14, false) }) (v := ?_) rfl (by kernel_rfl) (by kernel_rfl) (by kernel_rfl) (by kernel_rfl) (fun _ _ _ h => h) (Or.inl ⟨by rfl, ?hy24⟩) kd ?_
                  case hy24 => (intro W hSw; (try dsimp only at hSw); go_simp; try with_reducible rfl)
                  try simp only [Act.put, List.setIfInBounds_toArray, List.set_cons_zero, List.set_cons_succ]
                  refine Gz.one (i := 20) (o := { dst := some 128, op := Op.call { callee := Callee.value (Operand.func 12), args := #[Operand.tmp 123, Operand.tmp 127], argTypes := #[22, 9] }, type := 32, pos := _, after := #[{ on := 15, ground := Ground.data }, { on := 19, ground := Ground.data }, { on := 14, ground := Ground.chain }, { on := 14, ground := Ground.guard }], guard := some (14, false) }) (by kernel_rfl) rfl (fun K hK => ?_)
                  go_simp
                  refine Calls.mono (HCH.out _ kd) ?_
                  rintro e v6 ⟨vv, gs, rfl, hol, hgl, xt, m6⟩
                  obtain ⟨ag, cg, rfl, -, -⟩ := xt.shape
                  have p6 : Kept (fun _ => True) wr v6 := kd.trans m6
                  have ch1 : Calls Try.prog 24 #[.slice ag gs.length cg, .string ⟨x.toArray⟩] v6 _ := has_any xt (by have := HFEW.out; omega) x
                  rw [decide_eq_true ((hol.2 x).2 HYX.out)] at ch1
                  clear hol hgl xt m6
                  try go_wp2_with fail
                  refine hK.out _ _ (fun hEarly => p6) ?_
                  clear hK K
                  try simp only [Act.put, List.setIfInBounds_toArray, List.set_cons_zero, List.set_cons_succ]
                  refine Gz.one (i := 25) (o := { dst := some 133, op := Op.call { callee := Callee.value (Operand.func 24), args := #[Operand.tmp 128, Operand.tmp 132], argTypes := #[32, 9] }, type := 4, pos := _, after := #[{ on := 20, ground := Ground.data }, { on := 24, ground := Ground.data }, { on := 20, ground := Ground.chain }, { on := 14, ground := Ground.guard }], guard := some (14, false) }) (by kernel_rfl) rfl (fun K hK => ?_)
                  go_simp
                  refine Calls.mono ch1 ?_
                  rintro e _ ⟨rfl, rfl⟩
                  clear ch1
                  try go_wp2_with fail
                  refine hK.out _ _ (fun hEarly => p6) ?_
                  clear hK K
                  try simp only [Act.put, List.setIfInBounds_toArray, List.set_cons_zero, List.set_cons_succ]
                  refine Gz.take (i := 26) (oi := { dst := some 134, op := Op.unOp UnOp.not 4 (Operand.tmp 133), type := 4, pos := _, after := #[{ on := 25, ground := Ground.data }, { on := 14, ground := Ground.guard }], guard := some (14, false) }) (v := ?_) rfl (by kernel_rfl) (by kernel_rfl) (by kernel_rfl) (by kernel_rfl) (fun _ _ _ h => h) (Or.inl ⟨by rfl, ?hy26⟩) p6 ?_
                  case hy26 => (intro W hSw; (try dsimp only at hSw); go_simp; try with_reducible rfl)
                  try simp only [Act.put, List.setIfInBounds_toArray, List.set_cons_zero, List.set_cons_succ]
                  refine Gz.take (i := 27) (oi := { dst := some 135, op := Op.pick (Operand.tmp 122) (Operand.const (Value.bool true)) (Operand.tmp 134), type := 4, pos := _, after := #[{ on := 14, ground := Ground.data }, { on := 26, ground := Ground.data }], guard := none }) (v := ?_) rfl (by kernel_rfl) (by kernel_rfl) (by kernel_rfl) (by kernel_rfl) (fun _ _ _ h => h) (Or.inl ⟨by rfl, ?hy27⟩) p6 ?_
                  case hy27 => (intro W hSw; (try dsimp only at hSw); go_simp; try with_reducible rfl)
                  try simp only [Act.put, List.setIfInBounds_toArray, List.set_cons_zero, List.set_cons_succ]
                  refine Gz.take (i := 28) (oi := { dst := some 136, op := Op.move (Operand.tmp 135), type := 4, pos := _, after := #[{ on := 27, ground := Ground.data }, { on := 25, ground := Ground.chain }], guard := none }) (v := ?_) rfl (by kernel_rfl) (by kernel_rfl) (by kernel_rfl) (by kernel_rfl) (fun _ _ _ h => h) (Or.inl ⟨by rfl, ?hy28⟩) p6 ?_
                  case hy28 => (intro W hSw; (try dsimp only at hSw); go_simp; try with_reducible rfl)
                  try simp only [Act.put, List.setIfInBounds_toArray, List.set_cons_zero, List.set_cons_succ]
                  refine Gz.take (i := 29) (oi := { dst := some 137, op := Op.move (Operand.tmp 4), type := 32, pos := _, after := #[{ on := 28, ground := Ground.guard }], guard := some (28, false) }) (v := ?_) rfl (by kernel_rfl) (by kernel_rfl) (by kernel_rfl) (by kernel_rfl) (fun _ _ _ h => h) (Or.inl ⟨by rfl, ?hy29⟩) p6 ?_
                  case hy29 => (intro W hSw; (try dsimp only at hSw); go_simp; try with_reducible rfl)
                  try simp only [Act.put, List.setIfInBounds_toArray, List.set_cons_zero, List.set_cons_succ]
                  refine Gz.take (i := 30) (oi := { dst := some 138, op := Op.move (Operand.tmp 10), type := 32, pos := _, after := #[{ on := 28, ground := Ground.guard }], guard := some (28, false) }) (v := ?_) rfl (by kernel_rfl) (by kernel_rfl) (by kernel_rfl) (by kernel_rfl) (fun _ _ _ h => h) (Or.inl ⟨by rfl, ?hy30⟩) p6 ?_
                  case hy30 => (intro W hSw; (try dsimp only at hSw); go_simp; try with_reducible rfl)
                  try simp only [Act.put, List.setIfInBounds_toArray, List.set_cons_zero, List.set_cons_succ]
                  refine Gz.take (i := 31) (oi := { dst := some 139, op := Op.move (Operand.tmp 11), type := 3, pos := _, after := #[{ on := 28, ground := Ground.guard }], guard := some (28, false) }) (v := ?_) rfl (by kernel_rfl) (by kernel_rfl) (by kernel_rfl) (by kernel_rfl) (fun _ _ _ h => h) (Or.inl ⟨by rfl, ?hy31⟩) p6 ?_
                  case hy31 => (intro W hSw; (try dsimp only at hSw); go_simp; try with_reducible rfl)
                  try simp only [Act.put, List.setIfInBounds_toArray, List.set_cons_zero, List.set_cons_succ]
                  refine Gz.take (i := 32) (oi := { dst := some 140, op := Op.indexAddr 32 (Operand.tmp 138) (Operand.tmp 139), type := 0, pos := _, after := #[{ on := 30, ground := Ground.data }, { on := 31, ground := Ground.data }, { on := 28, ground := Ground.guard }], guard := some (28, false) }) (v := ?_) rfl (by kernel_rfl) (by kernel_rfl) (by kernel_rfl) (by kernel_rfl) (fun _ _ _ h => h) (Or.inl ⟨by rfl, ?hy32⟩) p6 ?_
                  case hy32 => (intro W hSw; (try dsimp only at hSw); go_simp; try with_reducible rfl)
                  try simp only [Act.put, List.setIfInBounds_toArray, List.set_cons_zero, List.set_cons_succ]
                  refine Gz.take (i := 33) (oi := { dst := some 141, op := Op.load 9 (Operand.tmp 140), type := 9, pos := _, after := #[{ on := 32, ground := Ground.data }, { on := 28, ground := Ground.guard }], guard := some (28, false) }) (v := ?_) rfl (by kernel_rfl) (by kernel_rfl) (by kernel_rfl) (by kernel_rfl) (fun _ _ _ h => h) (Or.inl ⟨by rfl, ?hy33⟩) p6 ?_
                  case hy33 => (intro W hSw; (try dsimp only at hSw); go_simp; try with_reducible rfl)
                  try simp only [Act.put, List.setIfInBounds_toArray, List.set_cons_zero, List.set_cons_succ]
                  refine Gz.one (i := 34) (o := { dst := some 142, op := Op.call { callee := Callee.value (Operand.func 24), args := #[Operand.tmp 137, Operand.tmp 141], argTypes := #[32, 9] }, type := 4, pos := _, after := #[{ on := 29, ground := Ground.data }, { on := 33, ground := Ground.data }, { on := 28, ground := Ground.chain }, { on := 28, ground := Ground.guard }], guard := some (28, false) }) (by kernel_rfl) rfl (fun K hK => ?_)
                  go_simp
                  refine Calls.mono (HCN.out _ p6) ?_
                  rintro e _ ⟨rfl, rfl⟩
                  try go_wp2_with fail
                  refine hK.out _ _ (fun hEarly => p6) ?_
                  clear hK K
                  try simp only [Act.put, List.setIfInBounds_toArray, List.set_cons_zero, List.set_cons_succ]
                  refine Gz.take (i := 35) (oi := { dst := some 143, op := Op.unOp UnOp.not 4 (Operand.tmp 142), type := 4, pos := _, after := #[{ on := 34, ground := Ground.data }, { on := 28, ground := Ground.guard }], guard := some (28, false) }) (v := ?_) rfl (by kernel_rfl) (by kernel_rfl) (by kernel_rfl) (by kernel_rfl) (fun _ _ _ h => h) (Or.inl ⟨by rfl, ?hy35⟩) p6 ?_
                  case hy35 => (intro W hSw; (try dsimp only at hSw); go_simp; try with_reducible rfl)
                  try simp only [Act.put, List.setIfInBounds_toArray, List.set_cons_zero, List.set_cons_succ]
                  refine Gz.take (i := 36) (oi := { dst := some 144, op := Op.pick (Operand.tmp 136) (Operand.const (Value.bool true)) (Operand.tmp 143), type := 4, pos := _, after := #[{ on := 28, ground := Ground.data }, { on := 35, ground := Ground.data }], guard := none }) (v := ?_) rfl (by kernel_rfl) (by kernel_rfl) (by kernel_rfl) (by kernel_rfl) (fun _ _ _ h => h) (Or.inl ⟨by rfl, ?hy36⟩) p6 ?_
                  case hy36 => (intro W hSw; (try dsimp only at hSw); go_simp; try with_reducible rfl)
                  try simp only [Act.put, List.setIfInBounds_toArray, List.set_cons_zero, List.set_cons_succ]
                  refine Gz.done (by kernel_rfl) ?_ _
                  go_wp2_with fail
                  go_meet
                  exact ⟨rfl, p6⟩
                · have hkp : (0 : Int) < (k : Int) := by omega
                  have hkn : 0 < k := by omega
                  have hkd : decide ((0 : Int) < (k : Int)) = true := by simp; omega
                  have hke : decide (0 < k) = true := by simp; omega
                  have s3 := HLS.out (by omega)
                  have HPK : Hid (∀ W, Kept (fun _ => True) wr W → W.cell? ⟨g10, k - 1, none⟩ = some (.string ⟨(hs[k - 1]'(by omega)).toArray⟩)) := HPR.out (by omega)
                  generalize hs[k - 1]'(by omega) = yp at *
                  have s4 : (k : Int) - 1 = ((k - 1 : Nat) : Int) := by omega
                  obtain ⟨km, hkm⟩ : ∃ km, km = k - 1 := ⟨_, rfl⟩
                  rw [← hkm] at s4 HPK
                  have r3 : ∀ W, Kept (fun _ => True) wr W → W.cell? ⟨g10, km, none⟩ = some (.string ⟨yp.toArray⟩) := HPK.out
                  have s5 : (km : Int) < (hs.length : Int) := by omega
                  have s6 : (0 : Int) ≤ (km : Int) := by omega
                  have s7 : IntKind.i64.wrap (km : Int) = (km : Int) := by simp [IntKind.wrap, IntKind.bits, IntKind.signed]; omega
                  clear hkm HLS HPR HPK
                  go_region_held3 (fun W => Kept (fun _ => True) wr W) (assumption) (first
                    | (go_at_call 12; refine Calls.mono (HCH.out _ (by assumption)) ?_; rintro e v6 ⟨vv, gs, rfl, hol, hgl, xt, m6⟩; obtain ⟨ag, cg, rfl, -, -⟩ := xt.shape; have p6 : Kept (fun _ => True) wr v6 := kd.trans m6; have ch1 : Calls Try.prog 24 #[.slice ag gs.length cg, .string ⟨x.toArray⟩] v6 _ := has_any xt (by have := HFEW.out; omega) x; rw [decide_eq_true ((hol.2 x).2 HYX.out)] at ch1; clear hol hgl xt m6)
                    | (go_at_call 24; refine Calls.mono ch1 ?_; rintro e _ ⟨rfl, rfl⟩; clear ch1)
                    | (go_at_call 24; refine Calls.mono (HCN.out _ (by assumption)) ?_; rintro e _ ⟨rfl, rfl⟩))
                  all_goals (go_wp2_with fail; go_meet; exact ⟨rfl, p6⟩)
              case rest =>
              obtain ⟨rfl, k7⟩ := hcut
              have HK7 : Hid (Kept (fun _ => True) w5 wc) := HKK.out.trans k7
              clear k7 r1 r2 kd
              go_wp2_with fail
              go_roundw
              case rel => exact ⟨k + 1, by omega, by go_num, HK7.out⟩
              case measure => simp [intOf]; omega
            · have k1 : ¬ (k : Int) < (hs.length : Int) := by omega
              have HL6 : Hid (LookK w wr T n B h (.slice a5 ns.length c5) (.slice (some ⟨g8, 0, none⟩) us.length c8) ns us) := HL5.out.on HKK.out
              go_wp2_with fail
              go_roundw
              case rel => exact ⟨p + 1, by omega, by go_num, HL6.out⟩
              case measure => simp [intOf]; omega
        · have p1 : ¬ (p : Int) < (us.length : Int) := by omega
          go_wp2_with fail
          generalize wr = w3 at *
          go_loopw [12, 13, 14] (fun t12 _ _ wr => ∃ i : Nat, i ≤ ns.length ∧ t12 = .int .i64 (i : Nat) ∧ LookK w wr T n B h (.slice a5 ns.length c5) (.slice a8 us.length c8) ns us) (fun t12 _ _ _ => ns.length - (intOf t12).toNat)
          case atStart => exact ⟨0, Nat.zero_le _, rfl, HLp.out⟩
          case round =>
            obtain ⟨q, hq, rfl, hL⟩ := hrel
            have HLq : Hid (LookK w wr T n B h (.slice a5 ns.length c5) (.slice a8 us.length c8) ns us) := hL
            clear hL
            have qb : (q : Int) ≤ 1000 := by have := HLq.out.few; omega
            by_cases hlt : q < ns.length
            · obtain ⟨g4, rfl⟩ := HG4.out (by omega)
              have q0 := HLq.out.names.cell q hlt
              have q1 : (q : Int) < (ns.length : Int) := by omega
              have q2 : (0 : Int) ≤ (q : Int) := by omega
              have ch := holders_any HLq.out.tm.tb (HLq.out.sh ns[q] (List.getElem_mem hlt)) (by have := HLq.out.few; omega)
              have HCU : Hid (∀ W, Kept (fun _ => True) wr W → W.cell? ⟨g4, q, none⟩ = some (.string ⟨ns[q].toArray⟩)) := fun W k => cell_kept k q0 trivial
              generalize ns[q] = x at *
              go_wp2_with fail
              refine Calls.mono ch ?_
              rintro e w4 ⟨v13, hs, rfl, hol, hhl, xt, k4⟩
              clear ch q0
              obtain ⟨a13, c13, rfl, -, hg13⟩ := xt.shape
              have HG13 : Hid (0 < hs.length → ∃ g, a13 = some ⟨g, 0, none⟩) := hg13
              have HOL : Hid (Hol h x hs) := hol
              have HL5 : Hid (LookK w w4 T n B h (.slice (some ⟨g4, 0, none⟩) ns.length c5) (.slice a8 us.length c8) ns us) := HLq.out.on k4
              have HT5 : Hid (Txs w4 wr.heap.size (.slice a13 hs.length c13) hs) := xt
              have HC5 : Hid (∀ W, Kept (fun _ => True) w4 W → W.cell? ⟨g4, q, none⟩ = some (.string ⟨x.toArray⟩)) := fun W k => HCU.out W (k4.trans k)
              have hlb : hs.length ≤ 1000 := by have := HLq.out.few; omega
              clear hol xt k4 hhl hg13 HCU
              generalize w4 = w5 at *
              generalize wr.heap.size = S8 at *
              go_wp2_with fail
              go_loopw [14] (fun t14 wr => ∃ k : Nat, k ≤ hs.length ∧ t14 = .int .i64 (k : Nat) ∧ Kept (fun _ => True) w5 wr) (fun t14 _ => hs.length - (intOf t14).toNat)
              case atStart => exact ⟨0, Nat.zero_le _, rfl, Kept.refl _ _⟩
              case round =>
                obtain ⟨k, hk, rfl, hkk⟩ := hrel
                have HKK : Hid (Kept (fun _ => True) w5 wr) := hkk
                clear hkk
                have kb : (k : Int) ≤ 1000 := by omega
                by_cases hlt2 : k < hs.length
                · obtain ⟨g13, rfl⟩ := HG13.out (by omega)
                  have HL6 : Hid (LookK w wr T n B h (.slice (some ⟨g4, 0, none⟩) ns.length c5) (.slice a8 us.length c8) ns us) := HL5.out.on HKK.out
                  have HT6 : Hid (Txs wr S8 (.slice (some ⟨g13, 0, none⟩) hs.length c13) hs) := HT5.out.kept HKK.out (fun _ _ => trivial)
                  have q0 := HT6.out.cell k hlt2
                  have k1 : (k : Int) < (hs.length : Int) := by omega
                  have k0 : (0 : Int) ≤ (k : Int) := by omega
                  have hyx : h x hs[k] ≠ none := (HOL.out.2 hs[k]).1 (List.getElem_mem hlt2)
                  have HCH : Hid (∀ W, Kept (fun _ => True) wr W → Calls Try.prog 13 #[.pointer (some ⟨T, 0, none⟩), .string ⟨hs[k].toArray⟩] W fun e w' => ∃ v gs, e = .returned v ∧ Hel h hs[k] gs ∧ gs.length ≤ n ∧ Txs w' W.heap.size v gs ∧ Kept (fun _ => True) W w') := fun W kk => held_any (HL6.out.tm.all kk).tb (HL6.out.tm.short x _ hyx).2 (by have := HL6.out.few; omega)
                  have HCN : Hid (∀ W, Kept (fun _ => True) wr W → Calls Try.prog 24 #[.slice a8 us.length c8, .string ⟨hs[k].toArray⟩] W fun e w' => e = .returned (.bool true) ∧ w' = W) := fun W kk => by
                    have := has_any ((HL6.out.on kk).all) (by have := HL6.out.few; omega) hs[k]
                    rwa [decide_eq_true ((HL6.out.als.2 _).2 ⟨x, hyx⟩)] at this
                  have HYX : Hid (h x hs[k] ≠ none) := hyx
                  have r1 : ∀ W, Kept (fun _ => True) wr W → W.cell? ⟨g13, k, none⟩ = some (.string ⟨hs[k].toArray⟩) := fun W kk => cell_kept kk q0 trivial
                  have r2 : ∀ W, Kept (fun _ => True) wr W → W.cell? ⟨g4, q, none⟩ = some (.string ⟨x.toArray⟩) := fun W k => HC5.out W (HKK.out.trans k)
                  have HFEW : Hid (n ≤ 1000) := HL6.out.few.1
                  have kd : Kept (fun _ => True) wr wr.drew := (Kept.refl _ _).drew
                  clear q0 hyx
                  generalize hs[k] = y at *
                  go_upto_region 37 with fail
                  go_cut [183] from 163 to 182 (fun t wx => t = .bool false ∧ Kept (fun _ => True) wr wx)
                  case first =>
                    go_region_held3 (fun W => Kept (fun _ => True) wr W) (assumption) (first
                      | (go_at_call 13; refine Calls.mono (HCH.out _ (by assumption)) ?_; rintro e v6 ⟨vv, gs, rfl, hol, hgl, xt, m6⟩; obtain ⟨ag, cg, rfl, -, -⟩ := xt.shape; have p6 : Kept (fun _ => True) wr v6 := kd.trans m6; have ch1 : Calls Try.prog 24 #[.slice ag gs.length cg, .string ⟨x.toArray⟩] v6 _ := has_any xt (by have := HFEW.out; omega) x; rw [decide_eq_true ((hol.2 x).2 HYX.out)] at ch1; clear hol hgl xt m6)
                      | (go_at_call 24; refine Calls.mono ch1 ?_; rintro e _ ⟨rfl, rfl⟩; clear ch1)
                      | (go_at_call 24; refine Calls.mono (HCN.out _ (by assumption)) ?_; rintro e _ ⟨rfl, rfl⟩))
                    all_goals (go_wp2_with fail; go_meet; exact ⟨rfl, p6⟩)
                  case rest =>
                  obtain ⟨rfl, k7⟩ := hcut
                  have HK7 : Hid (Kept (fun _ => True) w5 wc) := HKK.out.trans k7
                  clear k7 r1 r2 kd
                  go_wp2_with fail
                  go_roundw
                  case rel => exact ⟨k + 1, by omega, by go_num, HK7.out⟩
                  case measure => simp [intOf]; omega
                · have k1 : ¬ (k : Int) < (hs.length : Int) := by omega
                  have HL6 : Hid (LookK w wr T n B h (.slice (some ⟨g4, 0, none⟩) ns.length c5) (.slice a8 us.length c8) ns us) := HL5.out.on HKK.out
                  go_wp2_with fail
                  go_roundw
                  case rel => exact ⟨q + 1, by omega, by go_num, HL6.out⟩
                  case measure => simp [intOf]; omega
            · have q1 : ¬ (q : Int) < (ns.length : Int) := by omega
              have HK : Hid (Kept (fun _ => True) w wr) := HLq.out.tm.kept
              have ck := known_any (w := wr)
              go_wp2_with fail
              refine Calls.mono ck ?_
              rintro e w6 ⟨rfl, k6⟩
              clear ck
              go_wp2_with fail
              go_ret
              exact ⟨rfl, HK.out.trans k6⟩

end Go.Proofs.Ytkinpgkckbocpaa
