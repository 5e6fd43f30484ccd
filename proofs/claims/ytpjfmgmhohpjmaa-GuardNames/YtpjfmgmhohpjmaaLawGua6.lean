/-
  The law GuardNames.
-/
import Derived.Test.YtpjfmgmhohpjmaaQView
import Derived.Test.YtpjfmgmhohpjmaaWBook
import Derived.Test.YtpjfmgmhohpjmaaQMade2
namespace Go.Proofs.Ytpjfmgmhohpjmaa
open Go.RowKit

/-- No names, as Go's text has them. -/
def no16 : List (List UInt8) := [[110, 111, 116], [97, 110, 100], [111, 114], [108, 116], [101, 113], [97, 100, 100], [115, 117, 98], [116, 121, 112, 101], [97, 116, 116, 114], [115, 116, 97, 103, 101], [109, 97, 114, 107], [], [49], [45, 49], [97, 66], [97, 32, 98]]
theorem no16_at (k : Nat) (hk : k < 16) : ∃ x : List UInt8, no16[k]? = some x ∧ isName x = false ∧ x.length ≤ 10 := by
  have h : ∀ x ∈ no16, isName x = false ∧ x.length ≤ 10 := by decide +kernel
  have hl : no16.length = 16 := rfl
  obtain ⟨x, hx⟩ : ∃ x, no16[k]? = some x := ⟨no16[k], List.getElem?_eq_getElem (by omega)⟩
  exact ⟨x, hx, h x (List.mem_of_getElem? hx)⟩
theorem no16_cell (k : Nat) (hk : k < 16) (x : List UInt8) (hx : no16[k]? = some x) : (#[Value.string ⟨#[110, 111, 116]⟩, .string ⟨#[97, 110, 100]⟩, .string ⟨#[111, 114]⟩, .string ⟨#[108, 116]⟩, .string ⟨#[101, 113]⟩, .string ⟨#[97, 100, 100]⟩, .string ⟨#[115, 117, 98]⟩, .string ⟨#[116, 121, 112, 101]⟩, .string ⟨#[97, 116, 116, 114]⟩, .string ⟨#[115, 116, 97, 103, 101]⟩, .string ⟨#[109, 97, 114, 107]⟩, .string ⟨#[]⟩, .string ⟨#[49]⟩, .string ⟨#[45, 49]⟩, .string ⟨#[97, 66]⟩, .string ⟨#[97, 32, 98]⟩] : Array Value)[k]? = some (.string ⟨x.toArray⟩) := by
  have hk' : k = 0 ∨ k = 1 ∨ k = 2 ∨ k = 3 ∨ k = 4 ∨ k = 5 ∨ k = 6 ∨ k = 7 ∨ k = 8 ∨ k = 9 ∨ k = 10 ∨ k = 11 ∨ k = 12 ∨ k = 13 ∨ k = 14 ∨ k = 15 := by omega
  rcases hk' with rfl | rfl | rfl | rfl | rfl | rfl | rfl | rfl | rfl | rfl | rfl | rfl | rfl | rfl | rfl | rfl
  all_goals
    injection hx with hx
    subst hx
    rfl
theorem letters_name {y : List UInt8} (ha : y.all isL = true) (hn : y ∉ no16) : 1 ≤ y.length ∧ isName y = decide (y.length ≤ 12) ∧ tx y = [y] ∧ (kd y = if y.length ≤ 12 then 3 else 1) := by
  have h0 : y ≠ [] := by rintro rfl; exact hn (by decide)
  have hs : y ∉ spellings := fun h => hn (by
    have : ∀ x ∈ spellings, x ∈ no16 := by decide +kernel
    exact this y h)
  have hk := kd_letters ha h0 hs
  have h1 : 1 ≤ y.length := by
    cases y with
    | nil => exact absurd rfl h0
    | cons c r => simp
  refine ⟨h1, ?_, tx_one y (fun c hc => (isL_not (List.all_eq_true.1 ha c hc)).2.1) h0, hk⟩
  by_cases hl : y.length ≤ 12
  · rw [if_pos hl] at hk
    rw [decide_eq_true hl]
    exact (kd_name y).1 hk
  · rw [if_neg hl] at hk
    rw [decide_eq_false hl]
    cases hx : isName y with
    | false => rfl
    | true => rw [(kd_name y).2 hx] at hk; cases hk
theorem filter_take (s : List UInt8) (i : Nat) (h : i < s.length) : (s.take (i + 1)).filter isL = (s.take i).filter isL ++ (if isL s[i] = true then [s[i]] else []) := by
  rw [List.take_succ_eq_append_getElem h, List.filter_append]
  congr 1
  cases hc : isL s[i] <;> simp [hc]
/-- A name alone, and with one added. -/
theorem name_alone {y : List UInt8} (ha : y.all isL = true) (hn : y ∉ no16) (os : List (List UInt8)) (hl : y.length ≤ 14) : ((chk (os ++ [y]) y).1 = 0 ↔ y.length ≤ 12) := by
  obtain ⟨h1, h2, h3, h4⟩ := letters_name ha hn
  rw [chk_gd, h3]
  by_cases h : y.length ≤ 12
  · rw [if_pos h] at h4
    have hr : rf (os ++ [y]) y = 0 := by
      rcases rf_cases (os ++ [y]) y with ⟨h5, _⟩ | ⟨_, h5, _⟩ | ⟨_, _, h5⟩
      · omega
      · exact absurd (by simp) h5
      · exact h5
    exact ⟨fun _ => h, fun _ => ⟨by omega, by simp [gd, hr, h4, ar, times]⟩⟩
  · rw [if_neg h] at h4
    have hr : rf (os ++ [y]) y ≠ 0 := by simp [rf, rfk, h4]
    exact ⟨fun h' => absurd h'.2 (by simp [gd, hr]), fun h' => absurd h' h⟩
theorem add_one {y : List UInt8} (ha : y.all isL = true) (hn : y ∉ no16) (h : y.length ≤ 12) : evl [y] [41] ([97, 100, 100, 32] ++ y ++ [32, 49]) = (42, 0) ∧ ∀ us, Us ([97, 100, 100, 32] ++ y ++ [32, 49]) us → us = [y] := by
  obtain ⟨h1, h2, h3, h4⟩ := letters_name ha hn
  rw [if_pos h] at h4
  have ht : tx ([97, 100, 100, 32] ++ y ++ [32, 49]) = [[97, 100, 100], y, [49]] := by
    have e : [97, 100, 100, 32] ++ y ++ [32, 49] = [97, 100, 100] ++ 32 :: (y ++ 32 :: [49]) := by simp
    rw [e, tx_join, tx_join, h3]
    rfl
  have k1 : kd [97, 100, 100] = 9 := by decide +kernel
  have k2 : kd [49] = 2 := by decide +kernel
  have r1 : rf [y] [97, 100, 100] = 0 := by simp [rf, rfk, k1]
  have r2 : rf [y] [49] = 0 := by simp [rf, rfk, k2]
  have r3 : rf [y] y = 0 := by simp [rf, rfk, h4]
  constructor
  · have hg : gd [y] 17 (tx ([97, 100, 100, 32] ++ y ++ [32, 49])) = .inr [] := by
      rw [ht]
      simp [gd, r1, r2, r3, k1, k2, h4, ar, times]
    have hv : vl (env [y] [41]) 17 (tx ([97, 100, 100, 32] ++ y ++ [32, 49])) = (42, []) := by
      rw [ht]
      have e1 : num [49] = 1 := by decide +kernel
      have e2 : env [y] [41] y = 41 := by simp [env]
      have e3 : jn 9 41 1 = 42 := by decide +kernel
      simp [vl, k1, k2, h4, e1, e2, e3]
    rw [evl, if_neg (by rw [chk_gd.2 ⟨by simp; omega, hg⟩]; simp), if_neg (by simp), hv]
  · intro us hu
    refine rises_unique us [y] hu.1 (List.pairwise_singleton ..) fun x => ?_
    rw [hu.2 x, ht]
    have n1 : isName [97, 100, 100] = false := by decide +kernel
    have n2 : isName [49] = false := by decide +kernel
    simp only [List.mem_cons, List.not_mem_nil, or_false]
    constructor
    · rintro ⟨rfl | rfl | rfl, h5⟩
      · rw [n1] at h5; cases h5
      · rfl
      · rw [n2] at h5; cases h5
    · rintro rfl
      exact ⟨.inr (.inl rfl), (kd_name x).1 h4⟩

theorem one_name (W : World) (y : List UInt8) : Ns ((W.alloc (.cells #[.string ⟨y.toArray⟩] 9)).alloc (.cells #[.int .i64 41] 3)) (.slice (some ⟨W.heap.size, 0, none⟩) 1 1) [y] :=
  Ns.new (ns := [y]) (cap := 1) (fr := (0, 0)) (alloc_two W _ _).1 (by simp)
theorem one_num (W : World) (y : List UInt8) (n : Int) : Vi ((W.alloc (.cells #[.string ⟨y.toArray⟩] 9)).alloc (.cells #[.int .i64 n] 3)) (.slice (some ⟨W.heap.size + 1, 0, none⟩) 1 1) [n] :=
  Vi.new (xs := [n]) (cap := 1) (fr := (0, 0)) (alloc_two W _ _).2

set_option maxRecDepth 100000 in
set_option maxHeartbeats 8000000 in
theorem guardNames_any {w : World} {a : Option Addr} {cap : Nat} {os : List (List UInt8)} (s : List UInt8) (_ : s.length ≤ 9223372036854775807) (ho : Nv w a cap os) (hn : a = none → cap = 0) :
    Calls Try.prog 8 #[.string ⟨s.toArray⟩, .slice a os.length cap] w fun e w' => e = .returned (.bool true) ∧ Kept (fun _ => True) w w' := by
  have HO : Hid (Nv w a cap os) := ho
  have HNC : Hid (a = none → cap = 0) := hn
  have ck := fun W => known_any (w := W)
  clear ho hn
  go_enter Try.func8, Try.ntmps8
  go_wp2_with fail
  go_loop [5, 6] (fun t5 t6 => ∃ (i : Nat) (y : List UInt8), i ≤ s.length ∧ i ≤ 14 ∧ t6 = .int .i64 (i : Nat) ∧ t5 = .string ⟨y.toArray⟩ ∧ y = (s.take i).filter isL) (fun _ t6 => 14 - (intOf t6).toNat)
  case atStart => exact ⟨0, [], Nat.zero_le _, by omega, rfl, rfl, rfl⟩
  case round =>
    obtain ⟨i, y, hi, hi14, rfl, rfl, hy⟩ := hrel
    have HY : Hid (y = (s.take i).filter isL) := hy
    have hyl : y.length ≤ 14 := by
      rw [hy]
      refine Nat.le_trans (List.length_filter_le ..) ?_
      rw [List.length_take]
      omega
    clear hy
    by_cases hlt : i < s.length ∧ i < 14
    · obtain ⟨hlt, h14⟩ := hlt
      have hcut := cut_text s i (i + 1) (by omega) (by omega)
      have et : tex s i (i + 1) = [s[i]] := by rw [tex_succ (Nat.le_refl _) hlt, tex_self]; rfl
      rw [et] at hcut
      have hci : ((i + 1 : Nat) : Int) = (i : Int) + 1 := by omega
      rw [hci] at hcut
      have HD : Hid ((s.take (i + 1)).filter isL = (s.take i).filter isL ++ (if isL s[i] = true then [s[i]] else [])) := filter_take s i hlt
      have hx := at_text s i hlt (by simpa [ByteArray.size] using hlt)
      obtain ⟨y1, hy1, a1⟩ : ∃ y1 : List UInt8, Hid (y1 = y ++ [s[i]]) ∧ ∀ W, (Op.stringOp .add ⟨y.toArray⟩ ⟨[s[i]].toArray⟩).run Try.prog W = .ok (.string ⟨y1.toArray⟩) W := ⟨_, by show _ = _; rfl, text_add y [s[i]] (by simp; omega)⟩
      have i1 : (i : Int) < (s.length : Int) := by omega
      have i0 : (0 : Int) ≤ (i : Int) := by omega
      have i14 : (i : Int) < 14 := by omega
      clear et hci
      by_cases hc : isL s[i] = true
      · have HE : Hid (y1 = (s.take (i + 1)).filter isL) := by
          show _ = _
          rw [hy1.out, HY.out, HD.out, if_pos hc]
        have hd := hc
        simp only [isL, Bool.and_eq_true, decide_eq_true_eq] at hd
        obtain ⟨d1, d2⟩ := hd
        clear hc hy1 HD
        generalize s[i] = ch at *
        have g1 : (97 : Int) ≤ (ch.toNat : Int) := by omega
        have g2 : (ch.toNat : Int) ≤ 122 := by omega
        go_wp2_with fail
        go_round
        case rel => exact ⟨i + 1, y1, by omega, by omega, by go_num, rfl, HE.out⟩
        case measure => simp [intOf]; omega
      · have HE : Hid (y = (s.take (i + 1)).filter isL) := by
          show _ = _
          rw [HD.out, if_neg hc, List.append_nil]
          exact HY.out
        simp only [isL, Bool.and_eq_true, decide_eq_true_eq, not_and] at hc
        clear hy1 HD
        generalize s[i] = ch at *
        by_cases d1 : 97 ≤ ch.toNat
        · have d2 := hc d1
          have g1 : (97 : Int) ≤ (ch.toNat : Int) := by omega
          have g2 : ¬ (ch.toNat : Int) ≤ 122 := by omega
          clear hc
          go_wp2_with fail
          go_round
          case rel => exact ⟨i + 1, y, by omega, by omega, by go_num, rfl, HE.out⟩
          case measure => simp [intOf]; omega
        · have g1 : ¬ (97 : Int) ≤ (ch.toNat : Int) := by omega
          clear hc
          go_wp2_with fail
          go_round
          case rel => exact ⟨i + 1, y, by omega, by omega, by go_num, rfl, HE.out⟩
          case measure => simp [intOf]; omega
    · have ha : y.all isL = true := by rw [HY.out]; simp
      have HA : Hid (y.all isL = true) := ha
      clear ha HY
      have hex : (¬ (i : Int) < (s.length : Int)) ∨ ((i : Int) < (s.length : Int) ∧ ¬ (i : Int) < 14) := by omega
      clear hlt
      rcases hex with hex | ⟨hex, hex2⟩
      all_goals
        have hrow := heap_alloc_new w (.cells #[.string ⟨#[110, 111, 116]⟩, .string ⟨#[97, 110, 100]⟩, .string ⟨#[111, 114]⟩, .string ⟨#[108, 116]⟩, .string ⟨#[101, 113]⟩, .string ⟨#[97, 100, 100]⟩, .string ⟨#[115, 117, 98]⟩, .string ⟨#[116, 121, 112, 101]⟩, .string ⟨#[97, 116, 116, 114]⟩, .string ⟨#[115, 116, 97, 103, 101]⟩, .string ⟨#[109, 97, 114, 107]⟩, .string ⟨#[]⟩, .string ⟨#[49]⟩, .string ⟨#[45, 49]⟩, .string ⟨#[97, 66]⟩, .string ⟨#[97, 32, 98]⟩] 9)
        have HKA : Hid (Kept (fun _ => True) w (w.alloc (.cells #[.string ⟨#[110, 111, 116]⟩, .string ⟨#[97, 110, 100]⟩, .string ⟨#[111, 114]⟩, .string ⟨#[108, 116]⟩, .string ⟨#[101, 113]⟩, .string ⟨#[97, 100, 100]⟩, .string ⟨#[115, 117, 98]⟩, .string ⟨#[116, 121, 112, 101]⟩, .string ⟨#[97, 116, 116, 114]⟩, .string ⟨#[115, 116, 97, 103, 101]⟩, .string ⟨#[109, 97, 114, 107]⟩, .string ⟨#[]⟩, .string ⟨#[49]⟩, .string ⟨#[45, 49]⟩, .string ⟨#[97, 66]⟩, .string ⟨#[97, 32, 98]⟩] 9))) := (Kept.refl _ _).alloc _
        have HR : Hid _ := hrow
        clear hrow
        go_wp2_with fail
        generalize hWA : w.alloc (.cells #[.string ⟨#[110, 111, 116]⟩, .string ⟨#[97, 110, 100]⟩, .string ⟨#[111, 114]⟩, .string ⟨#[108, 116]⟩, .string ⟨#[101, 113]⟩, .string ⟨#[97, 100, 100]⟩, .string ⟨#[115, 117, 98]⟩, .string ⟨#[116, 121, 112, 101]⟩, .string ⟨#[97, 116, 116, 114]⟩, .string ⟨#[115, 116, 97, 103, 101]⟩, .string ⟨#[109, 97, 114, 107]⟩, .string ⟨#[]⟩, .string ⟨#[49]⟩, .string ⟨#[45, 49]⟩, .string ⟨#[97, 66]⟩, .string ⟨#[97, 32, 98]⟩] 9) = WA at *
        clear hWA
        obtain ⟨G, hG⟩ : ∃ G, G = w.heap.size := ⟨_, rfl⟩
        rw [← hG] at HR ⊢
        have HG : Hid (G = w.heap.size) := hG
        clear hG
        go_loopw [8, 43] (fun _ t43 wr => ∃ k : Nat, k ≤ 16 ∧ t43 = .int .i64 (k : Nat) ∧ (∀ x ∈ no16.take k, x ≠ y) ∧ Kept (fun _ => True) WA wr) (fun _ t43 _ => 16 - (intOf t43).toNat)
        case atStart => exact ⟨0, Nat.zero_le _, rfl, by simp, Kept.refl _ _⟩
        case round =>
          obtain ⟨k, hk, rfl, hne, hkw⟩ := hrel
          have HNE : Hid (∀ x ∈ no16.take k, x ≠ y) := hne
          have HKW : Hid (Kept (fun _ => True) WA wr) := hkw
          have hRk := (hkw.block G (lt_of_block HR.out) trivial).trans HR.out
          clear hne hkw
          by_cases hlt : k < 16
          · obtain ⟨x, hx, hxn, hxl⟩ := no16_at k hlt
            have HX : Hid (no16[k]? = some x) := hx
            have q1 := row_cell hRk (no16_cell k hlt x hx)
            have cn := fun W => name_any (w := W) (s := x) (by omega)
            rw [hxn] at cn
            have i1 : (k : Int) < 16 := by omega
            have i0 : (0 : Int) ≤ (k : Int) := by omega
            clear hRk hx hxn
            go_wp2_with fail
            refine Calls.mono (cn _) ?_
            rintro e w2 ⟨rfl, k2⟩
            clear cn
            have HK2 : Hid (Kept (fun _ => True) WA w2) := HKW.out.trans k2
            clear k2
            by_cases he : y = x
            · subst he
              go_wp2_with fail
              refine Calls.mono (ck _) ?_
              rintro e w3 ⟨rfl, k3⟩
              go_wp2_with fail
              go_ret
              exact ⟨rfl, (HKA.out.trans HK2.out).trans k3⟩
            · have he' : (y == x) = false := beq_eq_false_iff_ne.2 he
              have HE : Hid (x ≠ y) := Ne.symm he
              clear he
              go_wp2_with fail
              go_roundw
              case rel =>
                refine ⟨k + 1, by omega, by go_num, fun z hz => ?_, HK2.out⟩
                rw [List.take_add_one, HX.out] at hz
                rcases List.mem_append.1 hz with hz | hz
                · exact HNE.out z hz
                · simp only [Option.toList_some, List.mem_singleton] at hz
                  rw [hz]
                  exact HE.out
              case measure => simp [intOf]; omega
          · have i1 : ¬ (k : Int) < 16 := by omega
            have hno : y ∉ no16 := by
              intro hy
              refine HNE.out y ?_ rfl
              have e16 : no16.take k = no16 := List.take_of_length_le (by show 16 ≤ k; omega)
              rw [e16]
              exact hy
            have HNO : Hid (y ∉ no16) := hno
            have HLN : Hid _ := letters_name HA.out hno
            have hl1 : 1 ≤ y.length := HLN.out.1
            have l1 : (1 : Int) ≤ (y.length : Int) := by omega
            clear hno HNE hRk
            go_upto_if 64 with fail
            go_cut [1] from 62 to 66 (fun t1 wx => (∃ o5 : List (List UInt8), t1 = .slice a o5.length cap ∧ Nv w a cap o5 ∧ o5.length ≤ 5) ∧ wr = wx)
            case first =>
              by_cases h5 : 5 < os.length
              · have h5' : (5 : Int) < (os.length : Int) := by omega
                obtain ⟨n1, n2, n3⟩ := HO.out.take 5 h5
                have n4 : ∀ w0, (Instr.slice 22 (.slice a os.length cap) none (some (.int .i64 5)) none).run Try.prog w0 = .ok (.slice a 5 cap) w0 := n3
                have HN1 : Hid _ := n1
                have HN2 : Hid _ := n2
                clear n1 n2 n3
                go_wp2_with fail
                go_meet
                exact ⟨⟨_, by rw [HN2.out], HN1.out, by rw [HN2.out]; exact Nat.le_refl _⟩, rfl⟩
              · have h5' : ¬ (5 : Int) < (os.length : Int) := by omega
                go_wp2_with fail
                go_meet
                exact ⟨⟨os, rfl, HO.out, by omega⟩, rfl⟩
            case rest =>
            obtain ⟨⟨o5, rfl, hv5, hl5⟩, rfl⟩ := hcut
            have HV5 : Hid (Nv w a cap o5) := hv5
            clear hv5
            have HKX : Hid (Kept (fun _ => True) w wr) := HKA.out.trans HKW.out
            have HS0 : Hid (Txs (wr.alloc (.cells #[] 9)) wr.heap.size (.slice (some ⟨wr.heap.size, 0, none⟩) 0 0) []) := new_texts wr
            have HV6 : Hid (Nv (wr.alloc (.cells #[] 9)) a cap o5) := HV5.out.all (HKX.out.alloc _)
            have HKY : Hid (Kept (fun _ => True) w (wr.alloc (.cells #[] 9))) := HKX.out.alloc _
            go_wp2_with (at_builtin; first
              | (refine wpList_append_nv rfl (.tmp 69) (.tmp 70) rfl wr.heap.size (.slice (some ⟨wr.heap.size, 0, none⟩) 0 0) [] rfl HS0.out a o5.length cap rfl o5 rfl HV6.out HNC.out (by simp) (by simp; omega) ?_; intro ao1 cap1 w1 t1 g1; have F1 := append_first HKX.out t1 g1; have T1 : Hid _ := F1.1; have k1 : Hid _ := F1.2.1; have s1 : Hid _ := F1.2.2; clear F1 t1 g1)
              | (refine wpList_append_text rfl (.tmp 71) (.tmp 73) rfl wr.heap.size (.slice ao1 o5.length cap1) o5 rfl (Txs.kept T1.out (p := fun _ => True) ((Kept.refl _ _).alloc _) (fun _ _ => trivial)) (Nat.le_trans s1.out (by simp)) w1.heap.size rfl y (0, 0) (heap_alloc_new w1 _) (by omega) ?_; intro ao2 cap2 w2 t2 g2 l2))
            have HK2 : Hid (Kept (fun _ => True) w w2) := append_second k1.out HKX.out.size T1.out g2
            have HT2 : Hid (Txs w2 wr.heap.size (.slice ao2 (o5.length + 1) cap2) (o5 ++ [y])) := t2
            have cc := check_any (t2.ns (by simp; omega)) (s := y) (by omega)
            have HCH : Hid _ := name_alone HA.out HNO.out o5 hyl
            clear t2 g2 l2
            by_cases hf : y.length ≤ 12
            · have hf' : (y.length : Int) ≤ 12 := by omega
              have e1 : (chk (o5 ++ [y]) y).1 = 0 := HCH.out.2 hf
              rw [e1] at cc
              obtain ⟨e2, e3⟩ := add_one HA.out HNO.out hf
              have HE3 : Hid _ := e3
              obtain ⟨y1, hy1, a1⟩ : ∃ y1 : List UInt8, Hid (y1 = [97, 100, 100, 32] ++ y) ∧ ∀ W, (Op.stringOp .add ⟨#[97, 100, 100, 32]⟩ ⟨y.toArray⟩).run Try.prog W = .ok (.string ⟨y1.toArray⟩) W := ⟨_, by show _ = _; rfl, text_add [97, 100, 100, 32] y (by simp; omega)⟩
              obtain ⟨y2, hy2, a2⟩ : ∃ y2 : List UInt8, Hid (y2 = [97, 100, 100, 32] ++ y ++ [32, 49]) ∧ ∀ W, (Op.stringOp .add ⟨y1.toArray⟩ ⟨#[32, 49]⟩).run Try.prog W = .ok (.string ⟨y2.toArray⟩) W := ⟨_, by show _ = _; rw [hy1.out], text_add y1 [32, 49] (by rw [hy1.out]; simp; omega)⟩
              rw [← hy2.out] at e2 HE3
              have hy2l : y2.length ≤ 100 := by rw [hy2.out]; simp; omega
              have ce := fun W => eval_any (one_name W y) (one_num W y 41) (s := y2) (by omega)
              rw [e2] at ce
              have cn := fun W => name_any (w := W) (s := y) (by omega)
              rw [HLN.out.2.1, decide_eq_true hf] at cn
              have cu := fun W => uses_any (w := W) (s := y2) (by omega)
              generalize (chk (o5 ++ [y]) y).2 = pos at *
              clear e1 e2 e3 hy1 hy2
              refine Calls.mono cc ?_
              rintro e w3 ⟨rfl, k3⟩
              have HK3 : Hid (Kept (fun _ => True) w w3) := HK2.out.trans k3
              clear cc k3
              have HK3a : Hid (Kept (fun _ => True) w ((w3.alloc (.cells #[.string ⟨y.toArray⟩] 9)).alloc (.cells #[.int .i64 41] 3))) := (HK3.out.alloc _).alloc _
              go_wp2_with fail
              refine Calls.mono (ce _) ?_
              rintro e w4 ⟨rfl, k4⟩
              have HK4 : Hid (Kept (fun _ => True) w w4) := HK3a.out.trans k4
              clear ce k4
              go_wp2_with fail
              refine Calls.mono (cn _) ?_
              rintro e w5 ⟨rfl, k5⟩
              have HK5 : Hid (Kept (fun _ => True) w w5) := HK4.out.trans k5
              clear cn k5
              go_wp2_with fail
              refine Calls.mono (cu _) ?_
              rintro e w6 ⟨⟨uv, us, rfl, hus, hT6⟩, k6⟩
              have HK6 : Hid (Kept (fun _ => True) w w6) := HK5.out.trans k6
              have e4 := HE3.out us hus
              subst e4
              have hT7 := hT6.kept (p := fun _ => True) ((Kept.refl (fun _ => True) w6).alloc (.cells #[.string ⟨y.toArray⟩] 9)) (fun _ _ => trivial)
              obtain ⟨uao, ucap, rfl, -, -⟩ := hT6.shape
              have ct := texts_any hT7 (one_text w6 y) (by simp)
              rw [decide_eq_true rfl] at ct
              have HK7 : Hid (Kept (fun _ => True) w (w6.alloc (.cells #[.string ⟨y.toArray⟩] 9))) := HK6.out.alloc _
              clear cu hus hT6 k6 hT7
              go_wp2_with fail
              refine Calls.mono ct ?_
              rintro e w8 ⟨rfl, m8, rfl⟩
              clear ct
              go_wp2_with fail
              refine Calls.mono (ck _) ?_
              rintro e w9 ⟨rfl, k9⟩
              go_wp2_with fail
              go_ret
              exact ⟨rfl, (HK7.out.drewN _).trans k9⟩
            · have hf' : ¬ (y.length : Int) ≤ 12 := by omega
              have e1 : (chk (o5 ++ [y]) y).1 ≠ 0 := fun h => hf (HCH.out.1 h)
              obtain ⟨y1, hy1, a1⟩ : ∃ y1 : List UInt8, Hid (y1 = [97, 100, 100, 32] ++ y) ∧ ∀ W, (Op.stringOp .add ⟨#[97, 100, 100, 32]⟩ ⟨y.toArray⟩).run Try.prog W = .ok (.string ⟨y1.toArray⟩) W := ⟨_, by show _ = _; rfl, text_add [97, 100, 100, 32] y (by simp; omega)⟩
              obtain ⟨y2, hy2, a2⟩ : ∃ y2 : List UInt8, Hid (y2 = [97, 100, 100, 32] ++ y ++ [32, 49]) ∧ ∀ W, (Op.stringOp .add ⟨y1.toArray⟩ ⟨#[32, 49]⟩).run Try.prog W = .ok (.string ⟨y2.toArray⟩) W := ⟨_, by show _ = _; rw [hy1.out], text_add y1 [32, 49] (by rw [hy1.out]; simp; omega)⟩
              have hy2l : y2.length ≤ 100 := by rw [hy2.out]; simp; omega
              have ce := fun W => eval_any (one_name W y) (one_num W y 41) (s := y2) (by omega)
              have cn := fun W => name_any (w := W) (s := y) (by omega)
              rw [HLN.out.2.1, decide_eq_false hf] at cn
              generalize (chk (o5 ++ [y]) y).2 = pos at *
              generalize (chk (o5 ++ [y]) y).1 = cx at *
              generalize (evl [y] [41] y2).1 = ex at *
              generalize (evl [y] [41] y2).2 = ey at *
              have e1' : ((cx : Int) == 0) = false := by simp; omega
              clear e1 hy1 hy2
              refine Calls.mono cc ?_
              rintro e w3 ⟨rfl, k3⟩
              have HK3 : Hid (Kept (fun _ => True) w w3) := HK2.out.trans k3
              clear cc k3
              have HK3a : Hid (Kept (fun _ => True) w ((w3.alloc (.cells #[.string ⟨y.toArray⟩] 9)).alloc (.cells #[.int .i64 41] 3))) := (HK3.out.alloc _).alloc _
              go_wp2_with fail
              refine Calls.mono (ce _) ?_
              rintro e w4 ⟨rfl, k4⟩
              have HK4 : Hid (Kept (fun _ => True) w w4) := HK3a.out.trans k4
              clear ce k4
              go_wp2_with fail
              refine Calls.mono (cn _) ?_
              rintro e w5 ⟨rfl, k5⟩
              have HK5 : Hid (Kept (fun _ => True) w w5) := HK4.out.trans k5
              clear cn k5
              go_wp2_with fail
              refine Calls.mono (ck _) ?_
              rintro e w9 ⟨rfl, k9⟩
              go_wp2_with fail
              go_ret
              exact ⟨rfl, HK5.out.trans k9⟩

end Go.Proofs.Ytpjfmgmhohpjmaa
