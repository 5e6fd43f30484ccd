/-
  LocksPlays: its walk.
-/
import Derived.Test.YtkinpgkckbocpaaKPair
namespace Go.Proofs.Ytkinpgkckbocpaa
open Go.RowKit

set_option maxRecDepth 100000 in
set_option maxHeartbeats 16000000 in
theorem locksPlays_any {w : World} {a an : Option Addr} {len cap nlen ncap : Nat} (h : IsAsks w a len) (hn : IsTexts w an nlen) :
    Calls Try.prog 4 #[.slice a len cap, .slice an nlen ncap] w fun e w' => e = .returned (.bool true) ∧ Kept (fun _ => True) w w' := by
  have HI : Hid (IsAsks w a len) := h
  have HNM : Hid (IsTexts w an nlen) := hn
  clear h hn
  have cn := new_tm (w := w)
  go_enter Try.func4, Try.ntmps4
  go_wp2_with fail
  refine Calls.mono cn ?_
  rintro e w1 ⟨T, B0, rfl, t1⟩
  clear cn
  have HP1 : Hid (Pk w (w1.alloc (.cells #[.slice none 0 0] 41)) T 0 B0 (fun _ _ => none) w1.heap.size (.slice none 0 0) []) := ⟨t1.all ((Kept.refl _ _).alloc _), ⟨heap_alloc_new w1 _, World.ownsRow_nil _ _ _ _, by simp, t1.kept.size⟩, Rep.nil⟩
  clear t1
  go_wp2_with fail
  generalize w1.heap.size = R at *
  go_loopw [7, 8, 9, 10, 11, 12, 13] (fun t7 _ _ _ _ _ _ wr => ∃ (i n : Nat) (B : Lab → Option Nat) (h : Lk) (v : Value) (xs : List Lo), i ≤ 60 ∧ t7 = .int .i64 (i : Nat) ∧ Pk w wr T n B h R v xs ∧ n ≤ 8 * i ∧ xs.length ≤ 8 * i) (fun t7 _ _ _ _ _ _ _ => 60 - (intOf t7).toNat)
  case atStart => exact ⟨0, 0, B0, _, _, [], Nat.zero_le _, rfl, HP1.out, Nat.le_refl _, Nat.le_refl _⟩
  case round =>
    obtain ⟨i, n, B, h, v, xs, hi, rfl, hP, hn, hxl⟩ := hrel
    clear HP1
    have HP : Hid (Pk w wr T n B h R v xs) := hP
    have HN : Hid (n ≤ 8 * i ∧ xs.length ≤ 8 * i) := ⟨hn, hxl⟩
    clear hP hn hxl
    by_cases hlt : i < len ∧ i < 60
    · obtain ⟨hl1, hl2⟩ := hlt
      obtain ⟨b, off, z, rfl, c0, c1, c2, hz⟩ := ask_at HI.out hl1 HP.out.tm.kept
      obtain ⟨kind, x, l, wa, wp⟩ := z
      simp only at c0 c1 c2
      obtain ⟨l', hl', hle, hwn', hcase⟩ := want_cut 8 hz.wn hz.nil hz.cap
      simp only at hcase hle hwn'
      have HX1 : Hid (Xk (wr.alloc (.cells #[.int .i64 kind, .string ⟨x.toArray⟩, .slice wa l.length wp] 43)) wr.heap.size kind x wa l.length wp) := heap_alloc_new wr _
      obtain ⟨x0, x1, x2, x3⟩ := HX1.out.cells
      have HW : Hid (Wn w (.slice wa l'.length wp) l') := hwn'
      have h66 : (8 : Int) < (l.length : Int) → l'.length = 8 := fun h => by rw [hle, List.length_take]; omega
      have HXS : Hid (x.length ≤ 9223372036854775807) := hz.short
      have HLS : Hid (∀ y ∈ l', y.1.length ≤ 9223372036854775807) := fun y hy => hz.shorts y (by rw [hle] at hy; exact List.mem_of_mem_take hy)
      have HCAP : Hid (l.length ≤ wp) := hz.cap
      have i1 : (i : Int) < (len : Int) := by omega
      have i0 : (0 : Int) ≤ (i : Int) := by omega
      have i60 : (i : Int) < 60 := by omega
      clear hz hwn' hle
      go_upto_if 36 with fail
      go_cut [] from 33 to 40 (fun wx => Xk wx wr.heap.size kind x wa l'.length wp ∧ Kept (fun _ => True) wr wx)
      case first =>
        rcases hcase with ⟨h6, hsl⟩ | ⟨h6, rfl⟩
        · have h6c : (8 : Int) ≤ (wp : Int) := by have := HCAP.out; omega
          go_wp2_with fail
          go_meet
          exact ⟨by rw [h66 h6]; exact heap_alloc_new wr _, (Kept.refl _ _).alloc _⟩
        · go_wp2_with fail
          go_meet
          exact ⟨HX1.out, (Kept.refl _ _).alloc _⟩
      case rest =>
      obtain ⟨hx2, k2⟩ := hcut
      clear hcase x0 x1 x2 x3 c0 c1 c2 HX1 h66
      have HX3 : Hid (Xk wc wr.heap.size kind x wa l'.length wp) := hx2
      have HP3 : Hid (Pk w wc T n B h R v xs) := HP.out.all k2
      clear k2 hx2 HP
      generalize wc = w3 at *
      obtain ⟨x0, x1, x2, -⟩ := HX3.out.cells
      generalize wr.heap.size = X at *
      go_upto_if 43 with fail
      go_cut [] from 41 to 66 (fun wx => ∃ (n' : Nat) (B' : Lab → Option Nat) (h' : Lk) (v' : Value) (xs' : List Lo), Pk w wx T n' B' h' R v' xs' ∧ n' ≤ 8 * (i + 1) ∧ xs'.length ≤ 8 * (i + 1) ∧ Xk wx X kind x wa l'.length wp)
      case first =>
        have r1 : ∀ W, Kept (fun k => k = X) w3 W → W.cell? ⟨X, 1, none⟩ = some (.string ⟨x.toArray⟩) := fun W kk => cell_kept kk x1 rfl
        have r2 : ∀ W, Kept (fun k => k = X) w3 W → W.cell? ⟨X, 2, none⟩ = some (.slice wa l'.length wp) := fun W kk => cell_kept kk x2 rfl
        have kd : Kept (fun k => k = X) w3 w3.drew := (Kept.refl _ _).drew
        have HPD : Hid (Pk w w3.drew T n B h R v xs) := HP3.out.all ((Kept.refl _ _).drew)
        have HXD : Hid (Xk w3.drew X kind x wa l'.length wp) := HX3.out.calm (Calm.of ((Kept.refl _ _).drew))
        clear x0 x1 x2
        by_cases hk : kind = 1
        · subst hk
          have ct := take_tm HPD.out.tm HXS.out (HW.out.all HPD.out.tm.kept) HLS.out (by have := HN.out; omega)
          obtain ⟨x0, -⟩ := HX3.out.cells
          go_upto_region 12 with fail
          go_region_held (fun W => Kept (fun k => k = X) w3 W) (assumption) (first
            | (go_at_call 9; refine Calls.mono ct ?_; rintro e w4 ⟨r, h', B', rfl, hT, t4, kc⟩; clear ct; have rt4 := HPD.out.rt.calm kc; have HX4 : Hid (Xk w4 X 1 x wa l'.length wp) := HXD.out.calm kc; have kx4 : Kept (fun k => k = X) w3 w4 := kd.trans (Kept.mono kc (fun q _ e => by subst e; exact noMap_cells HXD.out)); have ci := in_any (HW.out.all t4.kept) (by omega : l'.length ≤ 1000))
            | (go_at_call 18; refine Calls.mono ci ?_; rintro e w5 ⟨u5, rfl, ho5, k5⟩; clear ci; have t5 := t4.all k5; have rt5 := rt4.all k5; have HX5 : Hid (Xk w5 X 1 x wa l'.length wp) := HX4.out.calm (Calm.of k5); have kx5 : Kept (fun k => k = X) w3 w5 := kx4.trans (k5.mono (fun _ _ _ => trivial)); have cr := rtake_any rt5 t5.kept.size x ho5 (by have := HN.out; omega))
            | (go_at_call 17; refine Calls.mono cr ?_; rintro e w6 hE; unfold ETake at hE; obtain ⟨r2, v', ys, rfl, hR, rt6, rs6⟩ := hE; clear cr; obtain ⟨h2, hT2, hrep⟩ := hR.rep HPD.out.rep; obtain ⟨er, eh⟩ := hT2.unique hT; subst er; subst eh; have HP6 : Hid (Pk w w6 T (n + l'.length) B' h2 R v' ys) := ⟨t5.ref rt5 rs6, rt6, hrep⟩; have HX6 : Hid (Xk w6 X 1 x wa l'.length wp) := HX5.out.ref rt5 rs6; have kx6 : Kept (fun k => k = X) w3 w6 := kx5.trans (Kept.mono rs6 (fun q hq e => by subst e; exact ⟨fun e => by have a1 := rt5.self; have a2 := HX5.out; unfold Xk at a2; rw [← e, a2] at a1; simp at a1, own_typeK rt5.own HX5.out (by decide)⟩)); have HYL : Hid (ys.length ≤ xs.length + l'.length) := hR.length; clear hR rt6 rs6 hT2 hrep))
          all_goals (
            go_wp2_with fail
            go_meet
            exact ⟨_, B', _, v', ys, HP6.out, by have := HN.out; omega, by have := HN.out; have := HYL.out; omega, HX6.out⟩)
        · have hk1 : (kind == 1) = false := beq_eq_false_iff_ne.2 hk
          have cf := free_tm HPD.out.tm HXS.out (by have := HN.out; omega)
          obtain ⟨x0, -⟩ := HX3.out.cells
          clear hk
          go_upto_region 14 with fail
          go_region_held (fun W => Kept (fun k => k = X) w3 W) (assumption) (first
            | (go_at_call 15; refine Calls.mono cf ?_; rintro e w4 ⟨q, B', rfl, hq, t4, kc⟩; clear cf; have rt4 := HPD.out.rt.calm kc; have HX4 : Hid (Xk w4 X kind x wa l'.length wp) := HXD.out.calm kc; have kx4 : Kept (fun k => k = X) w3 w4 := kd.trans (Kept.mono kc (fun q _ e => by subst e; exact noMap_cells HXD.out)); have cr := rfree_any rt4 t4.kept.size x)
            | (go_at_call 19; refine Calls.mono cr ?_; rintro e w6 hE; unfold EFree at hE; obtain ⟨v', rfl, rt6, rs6⟩ := hE; clear cr; have hqq : decide ((xs.filter (fun z => decide (z.t ≠ x))).length < xs.length) = q := (by rw [Bool.eq_iff_iff, decide_eq_true_iff, HPD.out.rep.some1 x, hq]); rw [hqq]; have HP6 : Hid (Pk w w6 T n B' (freed h x) R v' (xs.filter (fun z => decide (z.t ≠ x)))) := ⟨t4.ref rt4 rs6, rt6, HPD.out.rep.freed x⟩; have HX6 : Hid (Xk w6 X kind x wa l'.length wp) := HX4.out.ref rt4 rs6; have kx6 : Kept (fun k => k = X) w3 w6 := kx4.trans (Kept.mono rs6 (fun q hq e => by subst e; exact ⟨fun e => by have a1 := rt4.self; have a2 := HX4.out; unfold Xk at a2; rw [← e, a2] at a1; simp at a1, own_typeK rt4.own HX4.out (by decide)⟩)); have HYL : Hid ((xs.filter (fun z => decide (z.t ≠ x))).length ≤ xs.length) := List.length_filter_le _ _; clear rt6 rs6 hqq hq))
          all_goals (
            go_wp2_with fail
            go_meet
            exact ⟨_, B', _, v', _, HP6.out, by have := HN.out; omega, by have := HN.out; have := HYL.out; omega, HX6.out⟩)
      case rest =>
      obtain ⟨n', B', h', v', xs', hP, hn', hxl', hx⟩ := hcut
      have HP4 : Hid (Pk w wc T n' B' h' R v' xs') := hP
      have HN4 : Hid (n' ≤ 8 * (i + 1) ∧ xs'.length ≤ 8 * (i + 1)) := ⟨hn', hxl'⟩
      clear HP3 HX3 x0 x1 x2 HW HLS HCAP HN hP hn' hxl'
      obtain ⟨x0, x1, x2, -⟩ := hx.cells
      clear hx
      generalize wc = w4 at *
      have r1 : ∀ W, Kept (fun _ => True) w4 W → W.cell? ⟨X, 1, none⟩ = some (.string ⟨x.toArray⟩) := fun W kk => cell_kept kk x1 trivial
      have kd : Kept (fun _ => True) w4 w4.drew := (Kept.refl _ _).drew
      have HCH : Hid (∀ W, Kept (fun _ => True) w4 W → Calls Try.prog 13 #[.pointer (some ⟨T, 0, none⟩), .string ⟨x.toArray⟩] W fun e w' => ∃ v us, e = .returned v ∧ Hel h' x us ∧ us.length ≤ n' ∧ Txs w' W.heap.size v us ∧ Kept (fun _ => True) W w') := fun W kk => held_any (HP4.out.tm.all kk).tb HXS.out (by have := HN4.out; omega)
      have HCR : Hid (∀ W, Kept (fun _ => True) w4 W → Calls Try.prog 20 #[.pointer (some ⟨R, 0, none⟩), .string ⟨x.toArray⟩] W fun e w' => ETold e W w' xs'.length (fun y => ∃ z ∈ xs', z.t = x ∧ z.c = y)) := fun W kk => rheld_any (HP4.out.rt.all kk) x
      have HCA : Hid (∀ W, Kept (fun _ => True) w4 W → Calls Try.prog 14 #[.pointer (some ⟨T, 0, none⟩)] W fun e w' => ∃ v us, e = .returned v ∧ Als h' us ∧ us.length ≤ n' ∧ Txs w' W.heap.size v us ∧ Kept (fun _ => True) W w') := fun W kk => all_any (HP4.out.tm.all kk).tb (by have := HN4.out; omega)
      have HCB : Hid (∀ W, Kept (fun _ => True) w4 W → Calls Try.prog 21 #[.pointer (some ⟨R, 0, none⟩)] W fun e w' => ETold e W w' xs'.length (fun y => ∃ z ∈ xs', z.t = y)) := fun W kk => rall_any (HP4.out.rt.all kk)
      have HREP : Hid (Rep xs' h') := HP4.out.rep
      have HSM : Hid (n' ≤ 1000000) := by have := HN4.out; show _ ≤ _; omega
      go_upto_region 16 with fail
      go_cut [84] from 67 to 83 (fun t wx => t = .bool false ∧ Kept (fun _ => True) w4 wx)
      case first =>
        clear x0 x1 x2
        go_region_held3 (fun W => Kept (fun _ => True) w4 W) (assumption) (first
          | (go_at_call 13; refine Calls.mono (HCH.out _ kd) ?_; rintro e w5 ⟨v5, us5, rfl, hu5, hl5, xt5, m5⟩; obtain ⟨a5, c5, rfl, -, -⟩ := xt5.shape; have k5 : Kept (fun _ => True) w4 w5 := kd.trans m5; clear m5)
          | (go_at_call 20; refine Calls.mono (HCR.out _ k5) ?_; rintro e w6 hE; unfold ETold at hE; obtain ⟨v6, us6, rfl, hu6, hl6, xt6, m6⟩ := hE; obtain ⟨a6, c6, rfl, -, -⟩ := xt6.shape; have k6 : Kept (fun _ => True) w4 w6 := k5.trans m6; have eus : us6 = us5 := Hel.unique (h := h') (x := x) ⟨hu6.1, fun y => (hu6.2 y).trans HREP.out.hel⟩ hu5; subst eus; have cx1 := texts_yesK (xt5.kept m6 (fun _ _ => trivial)) xt6 (by have := HSM.out; omega); clear m6 hu5 hu6 hl6 hl5 xt5 xt6)
          | (go_at_call 11; refine Calls.mono cx1 ?_; rintro e w7 ⟨rfl, m7⟩; clear cx1; have k7 : Kept (fun _ => True) w4 w7 := k6.trans m7; clear m7)
          | (go_at_call 14; refine Calls.mono (HCA.out _ k7) ?_; rintro e w8 ⟨v8, us8, rfl, hu8, hl8, xt8, m8⟩; obtain ⟨a8, c8, rfl, -, -⟩ := xt8.shape; have k8 : Kept (fun _ => True) w4 w8 := k7.trans m8; clear m8)
          | (go_at_call 21; refine Calls.mono (HCB.out _ k8) ?_; rintro e w9 hE; unfold ETold at hE; obtain ⟨v9, us9, rfl, hu9, hl9, xt9, m9⟩ := hE; obtain ⟨a9, c9, rfl, -, -⟩ := xt9.shape; have k9 : Kept (fun _ => True) w4 w9 := k8.trans m9; have eus : us9 = us8 := Als.unique (h := h') ⟨hu9.1, fun y => (hu9.2 y).trans HREP.out.als⟩ hu8; subst eus; have cx2 := texts_yesK (xt8.kept m9 (fun _ _ => trivial)) xt9 (by have := HSM.out; omega); clear m9 hu8 hu9 hl9 hl8 xt8 xt9)
          | (go_at_call 11; refine Calls.mono cx2 ?_; rintro e w10 ⟨rfl, m10⟩; clear cx2; have k10 : Kept (fun _ => True) w4 w10 := k9.trans m10; clear m10))
        all_goals (go_wp2_with fail; go_meet; exact ⟨rfl, k10⟩)
      case rest =>
      obtain ⟨rfl, k5⟩ := hcut
      have HP5 : Hid (Pk w wc T n' B' h' R v' xs') := HP4.out.all k5
      clear k5 HP4 HCH HCR HCA HCB r1 kd x0 x1 x2 HXS
      generalize wc = w5 at *
      go_wp2_with fail
      go_loopw [9, 10, 11, 12, 13] (fun t9 _ _ _ _ wr => ∃ k : Nat, k ≤ 6 ∧ t9 = .int .i64 (k : Nat) ∧ Pk w wr T n' B' h' R v' xs') (fun t9 _ _ _ _ _ => 6 - (intOf t9).toNat)
      case atStart => exact ⟨0, Nat.zero_le _, rfl, HP5.out⟩
      case round =>
        obtain ⟨k, hk, rfl, hP⟩ := hrel
        have HPk : Hid (Pk w wr T n' B' h' R v' xs') := hP
        clear hP
        by_cases hlt : k < nlen ∧ k < 6
        · obtain ⟨hk1, hk2⟩ := hlt
          obtain ⟨bn, on, y, rfl, cy, hyl⟩ := HNM.out k hk1
          have q0 := cell_kept HPk.out.tm.kept cy trivial
          have HQ : Hid (∀ W, Kept (fun _ => True) wr W → W.cell? ⟨bn, on + k, none⟩ = some (.string ⟨y.toArray⟩)) := fun W kk => cell_kept kk q0 trivial
          have k1 : (k : Int) < (nlen : Int) := by omega
          have k0 : (0 : Int) ≤ (k : Int) := by omega
          have k6 : (k : Int) < 6 := by omega
          have cW := writer_any HPk.out.tm.tb HPk.out.tm.alone hyl HSM.out
          clear cy
          go_wp2_with fail
          refine Calls.mono cW ?_
          rintro e w6 ⟨vw, ok, rfl, hw6, m6⟩
          clear cW
          have HP6 : Hid (Pk w w6 T n' B' h' R v' xs') := HPk.out.all m6
          have q1 := HQ.out w6 m6
          have HQ6 : Hid (∀ W, Kept (fun _ => True) w6 W → W.cell? ⟨bn, on + k, none⟩ = some (.string ⟨y.toArray⟩)) := fun W kk => cell_kept kk q1 trivial
          have HWR : Hid (Writes h' y vw ok) := hw6
          have cR := rwriter_any HP6.out.rt y
          clear q0 hw6 m6 HPk HQ
          go_wp2_with fail
          refine Calls.mono cR ?_
          rintro e w7 hE
          unfold EWr at hE
          obtain ⟨uw, ok2, rfl, hw7, m7⟩ := hE
          clear cR
          obtain ⟨ev, eo⟩ := (HREP.out.wr hw7).unique HP6.out.tm.alone HWR.out
          subst ev eo
          have HP7 : Hid (Pk w w7 T n' B' h' R v' xs') := HP6.out.all m7
          have HQ7 : Hid (∀ W, Kept (fun _ => True) w7 W → W.cell? ⟨bn, on + k, none⟩ = some (.string ⟨y.toArray⟩)) := fun W kk => HQ6.out W (m7.trans kk)
          clear hw7 m7 q1 HP6 HQ6 HWR
          have r1 : ∀ W, Kept (fun _ => True) w7 W → W.cell? ⟨bn, on + k, none⟩ = some (.string ⟨y.toArray⟩) := HQ7.out
          have kd : Kept (fun _ => True) w7 w7.drew := (Kept.refl _ _).drew
          have HCH : Hid (∀ W, Kept (fun _ => True) w7 W → Calls Try.prog 12 #[.pointer (some ⟨T, 0, none⟩), .string ⟨y.toArray⟩] W fun e w' => ∃ v us, e = .returned v ∧ Hol h' y us ∧ us.length ≤ n' ∧ Txs w' W.heap.size v us ∧ Kept (fun _ => True) W w') := fun W kk => holders_any (HP7.out.tm.all kk).tb hyl HSM.out
          have HCR : Hid (∀ W, Kept (fun _ => True) w7 W → Calls Try.prog 23 #[.pointer (some ⟨R, 0, none⟩), .string ⟨y.toArray⟩] W fun e w' => ETold e W w' xs'.length (fun u => ∃ z ∈ xs', z.c = y ∧ z.t = u)) := fun W kk => rholders_any (HP7.out.rt.all kk) y
          go_upto_region 23 with fail
          go_cut [136] from 113 to 135 (fun t wx => t = .bool false ∧ Kept (fun _ => True) w7 wx)
          case first =>
            go_region_held3 (fun W => Kept (fun _ => True) w7 W) (assumption) (first
              | (go_at_call 12; refine Calls.mono (HCH.out _ kd) ?_; rintro e w8 ⟨v5, us5, rfl, hu5, hl5, xt5, m5⟩; obtain ⟨a5, c5, rfl, -, -⟩ := xt5.shape; have k8 : Kept (fun _ => True) w7 w8 := kd.trans m5; clear m5)
              | (go_at_call 23; refine Calls.mono (HCR.out _ k8) ?_; rintro e w9 hE; unfold ETold at hE; obtain ⟨v6, us6, rfl, hu6, hl6, xt6, m6⟩ := hE; obtain ⟨a6, c6, rfl, -, -⟩ := xt6.shape; have k9 : Kept (fun _ => True) w7 w9 := k8.trans m6; have eus : us6 = us5 := Hol.unique (h := h') (c := y) ⟨hu6.1, fun u => (hu6.2 u).trans HREP.out.hol⟩ hu5; subst eus; have cx1 := texts_yesK (xt5.kept m6 (fun _ _ => trivial)) xt6 (by have := HSM.out; omega); clear m6 hu5 hu6 hl6 hl5 xt5 xt6)
              | (go_at_call 11; refine Calls.mono cx1 ?_; rintro e w10 ⟨rfl, m7⟩; clear cx1; have k10 : Kept (fun _ => True) w7 w10 := k9.trans m7; clear m7))
            all_goals (go_wp2_with fail; go_meet; exact ⟨rfl, k10⟩)
          case rest =>
          obtain ⟨rfl, k8⟩ := hcut
          have HP8 : Hid (Pk w wc T n' B' h' R v' xs') := HP7.out.all k8
          clear k8 r1 kd HCH HCR HP7 HQ7
          go_wp2_with fail
          go_roundw
          case rel => exact ⟨k + 1, by omega, by go_num, HP8.out⟩
          case measure => simp [intOf]; omega
        · go_upto_region 19 with fail
          go_cut [92] from 85 to 91 (fun t wx => t = .bool false ∧ wx = wr)
          case first =>
            by_cases h1 : k < nlen
            · have j1 : (k : Int) < (nlen : Int) := by omega
              have j2 : ¬ (k : Int) < 6 := by omega
              go_wp2_with fail
              go_meet
              exact ⟨rfl, rfl⟩
            · have j1 : ¬ (k : Int) < (nlen : Int) := by omega
              go_wp2_with fail
              go_meet
              exact ⟨rfl, rfl⟩
          case rest =>
          obtain ⟨rfl, rfl⟩ := hcut
          go_wp2_with fail
          go_roundw
          case rel => exact ⟨i + 1, n', B', h', v', xs', by omega, by go_num, HPk.out, HN4.out.1, HN4.out.2⟩
          case measure => simp [intOf]; omega
    · go_upto_region 6 with fail
      go_cut [26] from 19 to 25 (fun t wx => t = .bool false ∧ wx = wr)
      case first =>
        by_cases h1 : i < len
        · have i1 : (i : Int) < (len : Int) := by omega
          have i2 : ¬ (i : Int) < 60 := by omega
          go_wp2_with fail
          go_meet
          exact ⟨rfl, rfl⟩
        · have i1 : ¬ (i : Int) < (len : Int) := by omega
          go_wp2_with fail
          go_meet
          exact ⟨rfl, rfl⟩
      case rest =>
      obtain ⟨rfl, rfl⟩ := hcut
      have HK : Hid (Kept (fun _ => True) w wc) := HP.out.tm.kept
      have ck := known_any (w := wc)
      go_wp2_with fail
      refine Calls.mono ck ?_
      rintro e w6 ⟨rfl, k6⟩
      clear ck
      go_wp2_with fail
      go_ret
      exact ⟨rfl, HK.out.trans k6⟩

end Go.Proofs.Ytkinpgkckbocpaa
