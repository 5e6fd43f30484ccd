/-
  The law GuardBlanks.
-/
import Derived.Test.YtpjfmgmhohpjmaaQMade2
import Derived.Test.YtpjfmgmhohpjmaaQ11
import Derived.Test.YtpjfmgmhohpjmaaWBook
namespace Go.Proofs.Ytpjfmgmhohpjmaa
open Go.RowKit

theorem Vi.apart {w : World} {v : Value} {xs : List Int} (h : Vi w v xs) {w' : World} (k : Kept (fun _ => True) w w') {P : Nat} (hP : w.heap.size ≤ P) : Vp w' P v xs := by
  obtain ⟨ao, cap, e, h⟩ := h
  refine ⟨ao, cap, e, fun h0 => ?_⟩
  obtain ⟨b, off, e, hb, hc⟩ := h h0
  exact ⟨b, off, e, Nat.lt_of_lt_of_le hb k.size, by omega, fun i hi => (kept_cell k hb trivial).trans (hc i hi)⟩
theorem vi2 (W : World) (x y : Int) : Vi (W.alloc (.cells #[.int .i64 x, .int .i64 y] 3)) (.slice (some ⟨W.heap.size, 0, none⟩) 2 2) [x, y] := Vi.new (xs := [x, y]) (cap := 2) (fr := (0, 0)) (heap_alloc_new W _)

theorem nodup_few {l m : List (List UInt8)} (h : l.Nodup) (hs : ∀ x ∈ l, x ∈ m) : l.length ≤ m.length := by
  induction l generalizing m with
  | nil => simp
  | cons a l ih =>
    rw [List.nodup_cons] at h
    have ha := hs a (List.mem_cons_self ..)
    have := ih (m := m.erase a) h.2 fun x hx => (List.mem_erase_of_ne (fun (e : x = a) => h.1 (e ▸ hx))).2 (hs x (List.mem_cons_of_mem _ hx))
    rw [List.length_erase_of_mem ha] at this
    have := List.length_pos_of_mem ha
    rw [List.length_cons]
    omega
theorem us_few {s : List UInt8} {us : List (List UInt8)} (h : Us s us) : us.length ≤ s.length := by
  have h1 := nodup_few (l := us) (m := tx s) h.1.nodup fun x hx => ((h.2 x).1 hx).1
  have h2 := words_few s
  have h3 := congrArg List.length (Wo_tx s)
  rw [List.length_map] at h3
  omega
/-- Two blanks more behind each. -/
def dbl : List UInt8 → List UInt8
  | [] => []
  | c :: r => (if c = 32 then [32, 32, 32] else [c]) ++ dbl r
theorem dbl_append (a b : List UInt8) : dbl (a ++ b) = dbl a ++ dbl b := by
  induction a with
  | nil => rfl
  | cons c a ih => simp only [List.cons_append, dbl, ih, List.append_assoc]
theorem wd_blank (a : List UInt8) : wd (32 :: a) = ([], tx a) := rfl
theorem tx_blank (a : List UInt8) : tx (32 :: a) = tx a := by
  show fl (wd (32 :: a)).1 (wd (32 :: a)).2 = tx a
  rw [wd_blank]
  rfl
theorem wd_dbl (s : List UInt8) : wd (dbl s) = wd s := by
  induction s with
  | nil => rfl
  | cons c r ih =>
    by_cases hc : c = 32
    · subst hc
      show wd (32 :: 32 :: 32 :: dbl r) = wd (32 :: r)
      rw [wd_blank, wd_blank, tx_blank, tx_blank, tx, tx, ih]
    · have e : dbl (c :: r) = c :: dbl r := by simp [dbl, hc]
      rw [e, wd, wd, if_neg hc, if_neg hc, ih]
theorem tx_dbl (s : List UInt8) : tx ([32, 32] ++ dbl s ++ [32]) = tx s := by
  show tx (([32, 32] ++ dbl s) ++ 32 :: []) = tx s
  rw [tx_join]
  show tx (32 :: 32 :: dbl s) ++ tx [] = tx s
  rw [tx_blank, tx_blank, tx, tx, wd_dbl]
  exact List.append_nil _
theorem dbl_length (s : List UInt8) : (dbl s).length ≤ 3 * s.length := by
  induction s with
  | nil => simp [dbl]
  | cons c r ih =>
    simp only [dbl, List.length_append, List.length_cons]
    split <;> simp <;> omega
theorem dbl_take (s : List UInt8) (i : Nat) (h : i < s.length) : dbl (s.take (i + 1)) = dbl (s.take i) ++ (if s[i] = 32 then [32, 32, 32] else [s[i]]) := by
  rw [List.take_succ_eq_append_getElem h, dbl_append]
  simp [dbl]
theorem mk_tx {d : Nat} {s t : List UInt8} (h : Mk d s) (hd : d ≤ 16) (ht : tx t = tx s) (hl : t.length ≤ 120) {ns : List (List UInt8)} {vs : List Int} (hn : ∀ x ∈ tx s, kd x = 3 → x ∈ ns) (hv : ns.length ≤ vs.length) {v : Int} (hV : Va (env ns vs) d (tx s) v) : evl ns vs t = (v, 0) := by
  have h1 := h.gu ns hn 17 (by omega) []
  rw [List.append_nil, ← ht] at h1
  have h2 := hV 17 (by omega) []
  rw [List.append_nil, ← ht] at h2
  rw [evl, if_neg (by rw [chk_gd.2 ⟨hl, h1⟩]; simp), if_neg (by omega), h2]

set_option maxRecDepth 100000 in
set_option maxHeartbeats 4000000 in
theorem guardBlanks_any {w : World} {v : Value} {ls : List Int} (hl : Vi w v ls) (a b : Int) :
    Calls Try.prog 7 #[v, .int .i64 a, .int .i64 b] w fun e w' => e = .returned (.bool true) ∧ Kept (fun _ => True) w w' := by
  have HL : Hid (Vi w v ls) := hl
  obtain ⟨ao, cap, rfl, -⟩ := hl
  have x1 := heap_alloc_new w (.cells #[.string ⟨#[120]⟩, .string ⟨#[121]⟩] 9)
  have HN : Hid (Ns (w.alloc (.cells #[.string ⟨#[120]⟩, .string ⟨#[121]⟩] 9)) (.slice (some ⟨w.heap.size, 0, none⟩) 2 2) [[120], [121]]) := Ns.new (ns := [[120], [121]]) (cap := 2) x1 (by decide)
  have HK1 : Hid (Kept (fun _ => True) w (w.alloc (.cells #[.string ⟨#[120]⟩, .string ⟨#[121]⟩] 9))) := (Kept.refl (fun _ => True) w).alloc _
  clear x1
  go_enter Try.func7, Try.ntmps7
  go_wp2_with fail
  generalize hW1 : w.alloc (.cells #[.string ⟨#[120]⟩, .string ⟨#[121]⟩] 9) = W1 at *
  have hsz : W1.heap.size = w.heap.size + 1 := by rw [← hW1]; simp
  have HZ : Hid (w.heap.size ≤ W1.heap.size) := by rw [hsz]; show _ ≤ _; omega
  rw [← hsz]
  clear hW1 hsz
  have hP0 := heap_alloc_new W1 (.cells #[.int .i64 0] 3)
  have HC0 : Hid (Kept (fun _ => True) W1 (W1.alloc (.cells #[.int .i64 0] 3))) := (Kept.refl (fun _ => True) W1).alloc _
  generalize hW2 : W1.alloc (.cells #[.int .i64 0] 3) = W2 at *
  clear hW2
  obtain ⟨P, hP⟩ : ∃ P, P = W1.heap.size := ⟨_, rfl⟩
  rw [← hP] at hP0 ⊢
  have HP : Hid (P = W1.heap.size) := hP
  have HPL : Hid (w.heap.size ≤ P) := by rw [hP]; exact HZ.out
  clear hP HZ
  have cm := made_any 3 (i := 0) (HL.out.apart (HK1.out.trans HC0.out) HPL.out) hP0 (by decide) (by decide)
  clear hP0
  refine Calls.mono cm ?_
  rintro e W3 ⟨⟨s, rfl, hM⟩, i1, hi1, hP1, hk3⟩
  clear cm
  have HC1 : Hid (Kept (fun _ => True) W1 W3) := HC0.out.fresh hk3 (by rw [HP.out]; exact Nat.le_refl _)
  have HM : Hid (Mk 3 s) := hM
  have hsl : s.length ≤ 51 := hM.len
  clear hP1 hk3 hM HC0 hi1
  obtain ⟨U, hU⟩ := HM.out.va (env [[120], [121]] [a, b])
  have HU : Hid (Va (env [[120], [121]] [a, b]) 3 (tx s) U) := hU
  have HNP : Hid (∀ x ∈ tx s, kd x = 3 → x ∈ ([[120], [121]] : List (List UInt8))) := fun z hz h3 => by rcases HM.out.nm z hz h3 with rfl | rfl <;> decide
  clear hU
  have ck := fun W => known_any (w := W)
  go_wp2_with fail
  go_loop [10, 11] (fun t10 t11 => ∃ (i : Nat) (y : List UInt8), i ≤ s.length ∧ t11 = .int .i64 (i : Nat) ∧ t10 = .string ⟨y.toArray⟩ ∧ y = [32, 32] ++ dbl (s.take i)) (fun _ t11 => s.length - (intOf t11).toNat)
  case atStart => exact ⟨0, [32, 32], Nat.zero_le _, rfl, rfl, rfl⟩
  case round =>
    obtain ⟨i, y, hi, rfl, rfl, hy⟩ := hrel
    have HY : Hid (y = [32, 32] ++ dbl (s.take i)) := hy
    have hyl : y.length ≤ 2 + 3 * s.length := by
      rw [hy]
      have := dbl_length (s.take i)
      rw [List.length_take] at this
      simp
      omega
    clear hy
    by_cases hlt : i < s.length
    · have hcut := cut_text s i (i + 1) (by omega) (by omega)
      have et : tex s i (i + 1) = [s[i]] := by rw [tex_succ (Nat.le_refl _) hlt, tex_self]; rfl
      rw [et] at hcut
      have hci : ((i + 1 : Nat) : Int) = (i : Int) + 1 := by omega
      rw [hci] at hcut
      have HD : Hid (dbl (s.take (i + 1)) = dbl (s.take i) ++ (if s[i] = 32 then [32, 32, 32] else [s[i]])) := dbl_take s i hlt
      have hx := at_text s i hlt (by simpa [ByteArray.size] using hlt)
      obtain ⟨y1, hy1, a1⟩ : ∃ y1 : List UInt8, Hid (y1 = y ++ [s[i]]) ∧ ∀ W, (Op.stringOp .add ⟨y.toArray⟩ ⟨[s[i]].toArray⟩).run Try.prog W = .ok (.string ⟨y1.toArray⟩) W := ⟨_, by show _ = _; rfl, text_add y [s[i]] (by simp; omega)⟩
      have i1 : (i : Int) < (s.length : Int) := by omega
      have i0 : (0 : Int) ≤ (i : Int) := by omega
      clear et hci
      by_cases hc : s[i] = 32
      · rw [hc] at hx hcut a1
        obtain ⟨y2, hy2, a2⟩ : ∃ y2 : List UInt8, Hid (y2 = y1 ++ [32, 32]) ∧ ∀ W, (Op.stringOp .add ⟨y1.toArray⟩ ⟨#[32, 32]⟩).run Try.prog W = .ok (.string ⟨y2.toArray⟩) W := ⟨_, by show _ = _; rfl, text_add y1 [32, 32] (by rw [hy1.out]; simp; omega)⟩
        have HE : Hid (y2 = [32, 32] ++ dbl (s.take (i + 1))) := by
          show _ = _
          rw [hy2.out, hy1.out, HY.out, HD.out, if_pos hc, hc]
          simp
        clear hc
        go_wp2_with fail
        go_round
        case rel => exact ⟨i + 1, y2, by omega, by go_num, rfl, HE.out⟩
        case measure => simp [intOf]; omega
      · have HE : Hid (y1 = [32, 32] ++ dbl (s.take (i + 1))) := by
          show _ = _
          rw [hy1.out, HY.out, HD.out, if_neg hc]
          simp
        have hc' : ((s[i].toNat : Int) == 32) = false := by simp only [beq_eq_false_iff_ne, ne_eq]; intro q; exact hc (UInt8.toNat_inj.1 (by simpa using (by omega : s[i].toNat = 32)))
        clear hc hy1
        generalize s[i] = ch at *
        go_wp2_with fail
        go_round
        case rel => exact ⟨i + 1, y1, by omega, by go_num, rfl, HE.out⟩
        case measure => simp [intOf]; omega
    · have i1 : ¬ (i : Int) < (s.length : Int) := by omega
      obtain ⟨t, ht, a1⟩ : ∃ t : List UInt8, Hid (t = y ++ [32]) ∧ ∀ W, (Op.stringOp .add ⟨y.toArray⟩ ⟨#[32]⟩).run Try.prog W = .ok (.string ⟨t.toArray⟩) W := ⟨_, by show _ = _; rfl, text_add y [32] (by simp; omega)⟩
      have HT : Hid (tx t = tx s) := by
        show _ = _
        rw [ht.out, HY.out, List.take_of_length_le (by omega)]
        exact tx_dbl s
      clear ht HY
      by_cases hbig : 120 < t.length
      · have hb' : (120 : Int) < (t.length : Int) := by omega
        go_wp2_with fail
        refine Calls.mono (ck _) ?_
        rintro e W4 ⟨rfl, k4⟩
        go_wp2_with fail
        go_ret
        exact ⟨rfl, (HK1.out.trans HC1.out).trans k4⟩
      · have hb' : ¬ (120 : Int) < (t.length : Int) := by omega
        have c1 := eval_any (HN.out.all (HC1.out.alloc _)) (vi2 W3 a b) (s := s) (by omega)
        rw [HM.out.evl (by decide) (by omega) HNP.out (by simp) HU.out] at c1
        have HC2 : Hid (Kept (fun _ => True) W1 (W3.alloc (.cells #[.int .i64 a, .int .i64 b] 3))) := HC1.out.alloc _
        have c2 := fun W (hk : Kept (fun _ => True) W1 W) => eval_any (HN.out.all (hk.alloc _)) (vi2 W a b) (s := t) (by omega)
        rw [mk_tx HM.out (by decide) HT.out (by omega) HNP.out (by simp) HU.out] at c2
        have cu := fun W => uses_any (w := W) (s := s) (by omega)
        have cv := fun W => uses_any (w := W) (s := t) (by omega)
        go_wp2_with fail
        refine Calls.mono c1 ?_
        rintro e W4 ⟨rfl, k4⟩
        have HC4 : Hid (Kept (fun _ => True) W1 W4) := HC2.out.trans k4
        clear c1 k4
        have c3 := c2 _ HC4.out
        have HC4a : Hid (Kept (fun _ => True) W1 (W4.alloc (.cells #[.int .i64 a, .int .i64 b] 3))) := HC4.out.alloc _
        clear c2
        go_wp2_with fail
        refine Calls.mono c3 ?_
        rintro e W5 ⟨rfl, k5⟩
        have HC5 : Hid (Kept (fun _ => True) W1 W5) := HC4a.out.trans k5
        clear c3 k5
        go_wp2_with fail
        refine Calls.mono (cu _) ?_
        rintro e W6 ⟨⟨uv, us, rfl, hus, hT6⟩, k6⟩
        have HC6 : Hid (Kept (fun _ => True) W1 W6) := HC5.out.trans k6
        have HUS : Hid (Us s us) := hus
        have HT6 : Hid (Txs W6 W5.heap.size uv us) := hT6
        clear cu hus hT6 k6
        obtain ⟨uao, ucap, rfl, -, -⟩ := HT6.out.shape
        go_wp2_with fail
        refine Calls.mono (cv _) ?_
        rintro e W7 ⟨⟨vv, vs, rfl, hvs, hT7⟩, k7⟩
        have HC7 : Hid (Kept (fun _ => True) W1 W7) := HC6.out.trans k7
        have e1 := HUS.out.unique hvs HT.out.symm
        subst e1
        have hT6 := HT6.out.kept k7 (fun _ _ => trivial)
        obtain ⟨vao, vcap, rfl, -, -⟩ := hT7.shape
        have hul := us_few HUS.out
        have ct := texts_any hT6 hT7 (by omega)
        rw [decide_eq_true rfl] at ct
        clear cv hvs hT7 k7 hT6 HUS hul
        go_wp2_with fail
        refine Calls.mono ct ?_
        rintro e W8 ⟨rfl, m8, rfl⟩
        clear ct
        go_wp2_with fail
        refine Calls.mono (ck _) ?_
        rintro e W9 ⟨rfl, k9⟩
        go_wp2_with fail
        go_ret
        exact ⟨rfl, (HK1.out.trans (HC7.out.drewN _)).trans k9⟩

end Go.Proofs.Ytpjfmgmhohpjmaa
