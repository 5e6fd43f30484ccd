/-
  HistAlike: it answers true.
-/
import Derived.Test.YtllopkebamlgeaaHiSame
import Derived.Test.YtllopkebamlgeaaHiKn
import Derived.Laws.BitsAllLaws
namespace Go.Proofs.Ytllopkebamlgeaa
open Go.RowKit Go.Maps Go.Sort

theorem textT : ElT 27 9 1 16 (.string .empty) := ⟨Try.underlying27, Try.infoText, by simp [Value.cells], by decide, by decide⟩
theorem wrap_toInt (v : BitVec 64) : IntKind.i64.wrap (v.toNat : Int) = v.toInt := by
  have := v.isLt
  simp only [IntKind.wrap, IntKind.bits, IntKind.signed, BitVec.toInt]
  simp
  omega
theorem xor_ne (x : Int) : bits .xor .i64 x 1 ≠ x := by
  intro e
  have e1 : IntKind.i64.wrap (((BitVec.ofInt 64 x ^^^ BitVec.ofInt 64 1).toNat : Nat) : Int) = x := e
  rw [wrap_toInt] at e1
  have e3 : BitVec.ofInt 64 x ^^^ BitVec.ofInt 64 1 = BitVec.ofInt 64 x := by
    have := congrArg (BitVec.ofInt 64) e1
    rwa [BitVec.ofInt_toInt] at this
  have e4 := congrArg (fun v => BitVec.ofInt 64 x ^^^ v) e3
  simp only [← BitVec.xor_assoc, BitVec.xor_self, BitVec.zero_xor] at e4
  revert e4
  decide

set_option maxRecDepth 100000 in
set_option maxHeartbeats 4000000 in
theorem histAlike_any {w : World} {a : Option Addr} {cap : Nat} {ts : List (List UInt8)} (out ix why how : Int) (h : Vw txtS w a ts) (hc : a = none → cap = 0) (hn : ts.length ≤ 1048576) (hh : Fits how) :
    Calls Try.prog 6 #[.agg #[.int .i64 out, .slice a ts.length cap, .int .i64 ix, .int .i64 why], .int .i64 how] w fun e w' => e = .returned (.bool true) ∧ Kept (fun _ => True) w w' := by
  obtain ⟨w1, hw1⟩ : ∃ x, x = (w.alloc (.cells #[.int .i64 out, .slice a ts.length cap, .int .i64 ix, .int .i64 why] 29)).alloc (.cells #[.int .i64 out, .slice a ts.length cap, .int .i64 ix, .int .i64 why] 29) := ⟨_, rfl⟩
  have F1 : Bk w1 w.heap.size 29 [.int .i64 out, .slice a ts.length cap, .int .i64 ix, .int .i64 why] := by rw [hw1]; exact alloc_old _ (heap_alloc_new w _)
  have F2 : Bk w1 (w.heap.size + 1) 29 [.int .i64 out, .slice a ts.length cap, .int .i64 ix, .int .i64 why] := by
    rw [hw1]
    have := heap_alloc_new (w.alloc (.cells #[.int .i64 out, .slice a ts.length cap, .int .i64 ix, .int .i64 why] 29)) (.cells #[.int .i64 out, .slice a ts.length cap, .int .i64 ix, .int .i64 why] 29)
    rwa [heap_size_alloc] at this
  have K1 : Hid (Kept (fun _ => True) w w1) := by rw [hw1]; exact ((Kept.refl _ _).alloc _).alloc _
  have HV : Hid (Vw txtS w1 a ts) := h.all K1.out
  have HF1 : Hid (Bk w1 w.heap.size 29 [.int .i64 out, .slice a ts.length cap, .int .i64 ix, .int .i64 why]) := F1
  have HF2 : Hid (Bk w1 (w.heap.size + 1) 29 [.int .i64 out, .slice a ts.length cap, .int .i64 ix, .int .i64 why]) := F2
  have HN : Hid (ts.length ≤ 1048576) := hn
  have HV0 : Hid (Vw txtS w a ts) := h
  have HH : Hid (Fits how) := hh
  obtain ⟨f0, f1, f2, f3⟩ := (show Bk (w.alloc (.cells #[.int .i64 out, .slice a ts.length cap, .int .i64 ix, .int .i64 why] 29)) w.heap.size 29 [.int .i64 out, .slice a ts.length cap, .int .i64 ix, .int .i64 why] from heap_alloc_new w _).four
  go_enter Try.func6, Try.ntmps6
  go_upto_region 2 with fail
  rw [← hw1]
  have HSZ0 : Hid (w1.heap.size = w.heap.size + 2) := by show _ = _; rw [hw1, heap_size_alloc, heap_size_alloc]
  clear hw1 f0 f1 f2 f3
  obtain ⟨X, hX⟩ : ∃ X, X = w.heap.size := ⟨_, rfl⟩
  have HX : Hid (X = w.heap.size) := hX
  have HSZ : Hid (w1.heap.size = X + 2) := by show _ = _; rw [HSZ0.out, hX]
  rw [← hX] at F1 F2 HF1 HF2 ⊢
  have ka := (Kept.refl (fun _ => True) w1).alloc (.cells #[] 9)
  have HKa : Hid (Kept (fun _ => True) w1 (w1.alloc (.cells #[] 9))) := ka
  have HO0 : Hid _ := World.ownsRow_lit (base := w1.heap.size) (e := 9) (size := 1) w1 #[] 0 (Nat.le_refl _) (by unfold maxLen; omega) (by simp)
  have HFl : Hid (Fl (w1.alloc (.cells #[] 9)) (.slice a ts.length cap) ts.length 1 (txtS.row ts)) := vw_fl (S := txtS) (by decide) (HV.out.all ka) hc (by omega)
  obtain ⟨x0, x1, x2, x3⟩ := (F1.kept ka trivial).four
  obtain ⟨y0, y1, y2, y3⟩ := (F2.kept ka trivial).four
  clear F1 F2 hX ka h hc hn hh
  go_upto_region 3 with (at_builtin; refine wpList_append_flat Try.underlying27 Try.infoText cells_text (by decide) (by decide) rfl (.tmp 7) (.tmp 9) rfl w1.heap.size (.slice (some ⟨w1.heap.size, 0, none⟩) 0 0) rfl HO0.out (by simp) (.slice a ts.length cap) rfl HFl.out (row_one (S := txtS) ts) (by have := HN.out; omega) ?_; intro ao' cap' w2 hW hG; have HW : Hid (w2.ownsRow w1.heap.size 9 1 (.slice ao' ts.length cap') ts.length (txtS.row ts)) := hW; have HK : Hid (Kept (fun _ => True) w1 w2) := HKa.out.grown hG (fun i hi e => by simp [Value.ownBlock] at e; omega); have G2 := HF2.out.kept HK.out trivial; obtain ⟨p0, p1, p2, p3⟩ := G2.four; have pf := G2.free; clear hW hG G2)
  obtain ⟨w3, hw3⟩ : ∃ x, x = w2.setCell ⟨X + 1, 1, none⟩ (.slice ao' ts.length cap') := ⟨_, rfl⟩
  rw [← hw3]
  have hsz : w1.heap.size = X + 2 := by
    have := HSZ.out
    omega
  have hneY : ∀ k, (Value.slice ao' ts.length cap').ownBlock = some k → k ≠ X + 1 := fun k hk => by have := (World.ownsRow.lt HW.out k hk).1; omega
  have FA : Hid (Bk w3 X 29 [.int .i64 out, .slice a ts.length cap, .int .i64 ix, .int .i64 why]) := by show Bk _ _ _ _; rw [hw3]; exact (HF1.out.kept HK.out trivial).kept kept_set (by simp)
  have FB : Hid (Bk w3 (X + 1) 29 [.int .i64 out, .slice ao' ts.length cap', .int .i64 ix, .int .i64 why]) := by show Bk _ _ _ _; rw [hw3]; exact (HF2.out.kept HK.out trivial).set 1 _
  have HOB : Hid (Ow txtS 9 w3 w1.heap.size (.slice ao' ts.length cap') ts) := by
    show Ow _ _ _ _ _ _
    rw [hw3]
    exact Ow.kept (S := txtS) (e := 9) HW.out kept_set hneY
  have hXw : w.heap.size ≤ X + 1 := by rw [← HX.out]; omega
  have K3 : Hid (Kept (fun _ => True) w w3) := by show Kept _ _ _; rw [hw3]; exact kept_fresh (K1.out.trans HK.out) hXw _
  have HVA : Hid (Vw txtS w3 a ts) := by
    show Vw _ _ _ _
    have h0 := HV0.out
    exact h0.all K3.out
  have SAB : ∀ W, Kept (fun _ => True) w3 W → Calls Try.prog 13 #[.agg #[.int .i64 out, .slice a ts.length cap, .int .i64 ix, .int .i64 why], .agg #[.int .i64 out, .slice ao' ts.length cap', .int .i64 ix, .int .i64 why]] W fun e w' => e = .returned (.bool true) ∧ Kept (fun _ => True) W w' := fun W k => by
    have := same_any (c := cap) (c' := cap') out ix why out ix why (HVA.out.all k) (HOB.out.view.all k) (by have := HN.out; omega)
    simpa using this
  have SBA : ∀ W, Kept (fun _ => True) w3 W → Calls Try.prog 13 #[.agg #[.int .i64 out, .slice ao' ts.length cap', .int .i64 ix, .int .i64 why], .agg #[.int .i64 out, .slice a ts.length cap, .int .i64 ix, .int .i64 why]] W fun e w' => e = .returned (.bool true) ∧ Kept (fun _ => True) W w' := fun W k => by
    have := same_any (c := cap') (c' := cap) out ix why out ix why (HOB.out.view.all k) (HVA.out.all k) (by have := HN.out; omega)
    simpa using this
  clear hw3 hsz hneY hXw p0 p1 p2 p3 pf x0 x1 x2 x3 y0 y1 y2 y3 HK HW HF1 HF2 HO0 HFl HKa
  obtain ⟨x0, x1, x2, x3⟩ := FA.out.four
  obtain ⟨y0, y1, y2, y3⟩ := FB.out.four
  go_upto_region 5 with (first
    | (go_at_call 13; (with_reducible refine Calls.mono (SAB _ (Kept.refl _ _)) ?_); rintro e w4 ⟨rfl, k4⟩; obtain ⟨p0, p1, p2, p3⟩ := (FA.out.kept k4 trivial).four; obtain ⟨q0, q1, q2, q3⟩ := (FB.out.kept k4 trivial).four; clear SAB)
    | (go_at_call 13; (with_reducible refine Calls.mono (SBA _ k4) ?_); rintro e w5 ⟨rfl, k5⟩; clear SBA))
  have K5 : Hid (Kept (fun _ => True) w3 w5) := k4.trans k5
  clear k4 k5 x0 x1 x2 x3 y0 y1 y2 y3 p0 p1 p2 p3 q0 q1 q2 q3
  go_upto_if 23 with fail
  go_cut [1, 23] from 24 to 26 (fun v _ wx => ∃ m : Nat, v = .int .i64 m ∧ m ≤ 9223372036854775807 ∧ wx = w5)
  case first =>
    by_cases hlt : how < 0
    · have hd : decide (how < 0) = true := decide_eq_true hlt
      have hm : ∃ m : Nat, -(how + 1) = (m : Int) ∧ m ≤ 9223372036854775807 := ⟨(-(how + 1)).toNat, by omega, by have := HH.out.1; omega⟩
      obtain ⟨m, hm, hm2⟩ := hm
      have b1 : -9223372036854775808 ≤ how + 1 := by have := HH.out.1; omega
      have b2 : how + 1 ≤ 9223372036854775807 := by omega
      have HM : Hid (-(how + 1) = (m : Int) ∧ m ≤ 9223372036854775807) := ⟨hm, hm2⟩
      try rw [hd]
      clear hlt hd hm hm2
      go_wp2_with fail
      go_meet
      refine ⟨m, ?_, HM.out.2, rfl⟩
      rw [HM.out.1, show wrap64 (m : Int) = m from by unfold wrap64; have := HM.out.2; omega]
    · have hd : decide (how < 0) = false := decide_eq_false hlt
      try rw [hd]
      have HM : Hid (how = ((how.toNat : Nat) : Int) ∧ how.toNat ≤ 9223372036854775807) := ⟨by omega, by have := HH.out.2; omega⟩
      clear hlt hd
      go_wp2_with fail
      go_meet
      exact ⟨how.toNat, by rw [← HM.out.1], HM.out.2, rfl⟩
  case rest =>
    obtain ⟨m, rfl, hm, hwx⟩ := hcut
    subst hwx
    have HM : Hid (m ≤ 9223372036854775807) := hm
    clear hm
    obtain ⟨x0, x1, x2, x3⟩ := (FA.out.kept K5.out trivial).four
    obtain ⟨y0, y1, y2, y3⟩ := (FB.out.kept K5.out trivial).four
    have yf := (FB.out.kept K5.out trivial).free
    obtain ⟨r4, hr4⟩ : ∃ r, r = (m : Int) % 4 := ⟨_, rfl⟩
    have HR4 : r4 = 0 ∨ r4 = 1 ∨ r4 = 2 ∨ r4 = 3 := by omega
    go_upto_region 9 with fail
    rw [← hr4]
    clear hr4
    rcases HR4 with rfl | rfl | rfl | rfl
    · obtain ⟨yv, hy⟩ : ∃ y, bits .xor .i64 why 1 = y := ⟨_, rfl⟩
      have HNY : Hid (why ≠ yv ∧ yv ≠ why) := by
        have := xor_ne why
        rw [hy] at this
        exact ⟨fun e => this e.symm, this⟩
      have FA7 : Hid (Bk wc X 29 [.int .i64 out, .slice a ts.length cap, .int .i64 ix, .int .i64 why]) := FA.out.kept K5.out trivial
      have FB7 : Hid (Bk wc (X + 1) 29 [.int .i64 out, .slice ao' ts.length cap', .int .i64 ix, .int .i64 why]) := FB.out.kept K5.out trivial
      have KW7 : Hid (Kept (fun _ => True) w wc) := K3.out.trans K5.out
      have HOX : Hid (Ow txtS 9 wc w1.heap.size (.slice ao' ts.length cap') ts) := Ow.all (S := txtS) HOB.out K5.out
      go_upto_region 15 with fail
      obtain ⟨w6, hw6⟩ : ∃ x, x = (wc).setCell ⟨X + 1, 3, none⟩ (.int .i64 yv) := ⟨_, rfl⟩
      rw [← hw6]
      have FA6 : Hid (Bk w6 X 29 [.int .i64 out, .slice a ts.length cap, .int .i64 ix, .int .i64 why]) := by show Bk _ _ _ _; rw [hw6]; exact FA7.out.kept kept_set (by simp)
      have FB6 : Hid (Bk w6 (X + 1) 29 [.int .i64 out, .slice ao' ts.length cap', .int .i64 ix, .int .i64 yv]) := by show Bk _ _ _ _; rw [hw6]; exact FB7.out.set 3 _
      have K6 : Hid (Kept (fun _ => True) w w6) := by show Kept _ _ _; rw [hw6]; exact kept_fresh KW7.out (by rw [← HX.out]; exact Nat.le_succ X) _
      have HA6 : Hid (Vw txtS w6 a ts) := HV0.out.all K6.out
      have HB6 : Hid (Vw txtS w6 ao' ts) := by
        have h1 : Ow txtS 9 w6 w1.heap.size (.slice ao' ts.length cap') ts := by
          rw [hw6]
          exact Ow.kept (S := txtS) HOX.out kept_set (fun k hk => by have h2 := (World.ownsRow.lt HOX.out k hk).1; have h3 := HSZ.out; omega)
        exact h1.view
      have SAB : ∀ W, Kept (fun _ => True) w6 W → Calls Try.prog 13 #[.agg #[.int .i64 out, .slice a ts.length cap, .int .i64 ix, .int .i64 why], .agg #[.int .i64 out, .slice ao' ts.length cap', .int .i64 ix, .int .i64 yv]] W fun e w' => e = .returned (.bool false) ∧ Kept (fun _ => True) W w' := fun W k => by
        have := same_any (c := cap) (c' := cap') out ix why out ix yv (HA6.out.all k) (HB6.out.all k) (by have := HN.out; omega)
        rw [show (decide (out = out) && decide (ts = ts) && decide (ix = ix) && decide (why = yv)) = false by simp [HNY.out.1]] at this; exact this
      have SBA : ∀ W, Kept (fun _ => True) w6 W → Calls Try.prog 13 #[.agg #[.int .i64 out, .slice ao' ts.length cap', .int .i64 ix, .int .i64 yv], .agg #[.int .i64 out, .slice a ts.length cap, .int .i64 ix, .int .i64 why]] W fun e w' => e = .returned (.bool false) ∧ Kept (fun _ => True) W w' := fun W k => by
        have := same_any (c := cap') (c' := cap) out ix yv out ix why (HB6.out.all k) (HA6.out.all k) (by have := HN.out; omega)
        rw [show (decide (out = out) && decide (ts = ts) && decide (ix = ix) && decide (yv = why)) = false by simp [HNY.out.2]] at this; exact this
      clear hw6 x0 x1 x2 x3 y0 y1 y2 y3 yf
      obtain ⟨x0, x1, x2, x3⟩ := FA6.out.four
      obtain ⟨y0, y1, y2, y3⟩ := FB6.out.four
      go_wp2_with (first
        | (go_at_call 13; (with_reducible refine Calls.mono (SAB _ (Kept.refl _ _)) ?_); rintro e w7 ⟨rfl, k7⟩; obtain ⟨p0, p1, p2, p3⟩ := (FA6.out.kept k7 trivial).four; obtain ⟨q0, q1, q2, q3⟩ := (FB6.out.kept k7 trivial).four; clear SAB)
        | (go_at_call 13; (with_reducible refine Calls.mono (SBA _ k7) ?_); rintro e w8 ⟨rfl, k8⟩; clear SBA)
        | (go_at_call 10; (with_reducible refine Calls.mono (known_any _) ?_); rintro e w9 ⟨rfl, k9⟩))
      go_ret
      exact ⟨rfl, ((K6.out.trans k7).trans k8).trans k9⟩
    · obtain ⟨yv, hy⟩ : ∃ y, bits .xor .i64 ix 1 = y := ⟨_, rfl⟩
      have HNY : Hid (ix ≠ yv ∧ yv ≠ ix) := by
        have := xor_ne ix
        rw [hy] at this
        exact ⟨fun e => this e.symm, this⟩
      have FA7 : Hid (Bk wc X 29 [.int .i64 out, .slice a ts.length cap, .int .i64 ix, .int .i64 why]) := FA.out.kept K5.out trivial
      have FB7 : Hid (Bk wc (X + 1) 29 [.int .i64 out, .slice ao' ts.length cap', .int .i64 ix, .int .i64 why]) := FB.out.kept K5.out trivial
      have KW7 : Hid (Kept (fun _ => True) w wc) := K3.out.trans K5.out
      have HOX : Hid (Ow txtS 9 wc w1.heap.size (.slice ao' ts.length cap') ts) := Ow.all (S := txtS) HOB.out K5.out
      go_upto_region 15 with fail
      obtain ⟨w6, hw6⟩ : ∃ x, x = (wc).setCell ⟨X + 1, 2, none⟩ (.int .i64 yv) := ⟨_, rfl⟩
      rw [← hw6]
      have FA6 : Hid (Bk w6 X 29 [.int .i64 out, .slice a ts.length cap, .int .i64 ix, .int .i64 why]) := by show Bk _ _ _ _; rw [hw6]; exact FA7.out.kept kept_set (by simp)
      have FB6 : Hid (Bk w6 (X + 1) 29 [.int .i64 out, .slice ao' ts.length cap', .int .i64 yv, .int .i64 why]) := by show Bk _ _ _ _; rw [hw6]; exact FB7.out.set 2 _
      have K6 : Hid (Kept (fun _ => True) w w6) := by show Kept _ _ _; rw [hw6]; exact kept_fresh KW7.out (by rw [← HX.out]; exact Nat.le_succ X) _
      have HA6 : Hid (Vw txtS w6 a ts) := HV0.out.all K6.out
      have HB6 : Hid (Vw txtS w6 ao' ts) := by
        have h1 : Ow txtS 9 w6 w1.heap.size (.slice ao' ts.length cap') ts := by
          rw [hw6]
          exact Ow.kept (S := txtS) HOX.out kept_set (fun k hk => by have h2 := (World.ownsRow.lt HOX.out k hk).1; have h3 := HSZ.out; omega)
        exact h1.view
      have SAB : ∀ W, Kept (fun _ => True) w6 W → Calls Try.prog 13 #[.agg #[.int .i64 out, .slice a ts.length cap, .int .i64 ix, .int .i64 why], .agg #[.int .i64 out, .slice ao' ts.length cap', .int .i64 yv, .int .i64 why]] W fun e w' => e = .returned (.bool false) ∧ Kept (fun _ => True) W w' := fun W k => by
        have := same_any (c := cap) (c' := cap') out ix why out yv why (HA6.out.all k) (HB6.out.all k) (by have := HN.out; omega)
        rw [show (decide (out = out) && decide (ts = ts) && decide (ix = yv) && decide (why = why)) = false by simp [HNY.out.1]] at this; exact this
      have SBA : ∀ W, Kept (fun _ => True) w6 W → Calls Try.prog 13 #[.agg #[.int .i64 out, .slice ao' ts.length cap', .int .i64 yv, .int .i64 why], .agg #[.int .i64 out, .slice a ts.length cap, .int .i64 ix, .int .i64 why]] W fun e w' => e = .returned (.bool false) ∧ Kept (fun _ => True) W w' := fun W k => by
        have := same_any (c := cap') (c' := cap) out yv why out ix why (HB6.out.all k) (HA6.out.all k) (by have := HN.out; omega)
        rw [show (decide (out = out) && decide (ts = ts) && decide (yv = ix) && decide (why = why)) = false by simp [HNY.out.2]] at this; exact this
      clear hw6 x0 x1 x2 x3 y0 y1 y2 y3 yf
      obtain ⟨x0, x1, x2, x3⟩ := FA6.out.four
      obtain ⟨y0, y1, y2, y3⟩ := FB6.out.four
      go_wp2_with (first
        | (go_at_call 13; (with_reducible refine Calls.mono (SAB _ (Kept.refl _ _)) ?_); rintro e w7 ⟨rfl, k7⟩; obtain ⟨p0, p1, p2, p3⟩ := (FA6.out.kept k7 trivial).four; obtain ⟨q0, q1, q2, q3⟩ := (FB6.out.kept k7 trivial).four; clear SAB)
        | (go_at_call 13; (with_reducible refine Calls.mono (SBA _ k7) ?_); rintro e w8 ⟨rfl, k8⟩; clear SBA)
        | (go_at_call 10; (with_reducible refine Calls.mono (known_any _) ?_); rintro e w9 ⟨rfl, k9⟩))
      go_ret
      exact ⟨rfl, ((K6.out.trans k7).trans k8).trans k9⟩
    · have HNT : Hid (ts ≠ ts ++ [[]] ∧ ts ++ [[]] ≠ ts) := by
        have h1 : ts ≠ ts ++ [[]] := fun e => by have := congrArg List.length e; simp at this
        exact ⟨h1, fun e => h1 e.symm⟩
      have HOA : Hid (Ow txtS 9 wc w1.heap.size (.slice ao' ts.length cap') ts) := Ow.all (S := txtS) HOB.out K5.out
      have HNB : Hid ((Value.slice ao' ts.length cap').ownBlock ≠ some (X + 1)) := fun e => by have h1 := (World.ownsRow.lt HOA.out _ e).1; have h2 := HSZ.out; omega
      have HNA : Hid ((Value.slice ao' ts.length cap').ownBlock ≠ some X) := fun e => by have h1 := (World.ownsRow.lt HOA.out _ e).1; have h2 := HSZ.out; omega
      have HNW : Hid (∀ x, x < w.heap.size → (Value.slice ao' ts.length cap').ownBlock ≠ some x) := fun x hx e => by have h1 := (World.ownsRow.lt HOA.out _ e).1; have h2 := HSZ.out; have h3 := HX.out; omega
      have HSC : Hid (w1.heap.size ≤ wc.heap.size) := by have h1 := HSZ.out; have h2 := FB.out.lt; have h3 := K5.out.size; show _ ≤ _; omega
      go_upto_region 15 with (at_builtin; refine wpList_append_one (S := txtS) textT rfl (.tmp 48) (.tmp 49) rfl w1.heap.size (.slice ao' ts.length cap') ts rfl (Ow.all (S := txtS) HOA.out ((Kept.refl _ _).alloc _)) (by rw [heap_size_alloc]; have := HSC.out; omega) wc.heap.size rfl [] (0, 0) (heap_alloc_new wc _) (by have := HN.out; omega) (ts.length + 1) rfl ?_; intro a7 c7 w7 ho7 hg7 at7; have KG : Kept (fun y => (Value.slice ao' ts.length cap').ownBlock ≠ some y) wc w7 := ((Kept.refl _ _).alloc _).grown hg7 (fun _ _ e h => h e); have FA7 : Hid (Bk w7 X 29 [.int .i64 out, .slice a ts.length cap, .int .i64 ix, .int .i64 why]) := (FA.out.kept K5.out trivial).kept KG HNA.out; have FB7 : Hid (Bk w7 (X + 1) 29 [.int .i64 out, .slice ao' ts.length cap', .int .i64 ix, .int .i64 why]) := (FB.out.kept K5.out trivial).kept KG HNB.out; have KW7 : Hid (Kept (fun _ => True) w w7) := (K3.out.trans K5.out).then KG (fun x hx _ => HNW.out x hx); obtain ⟨u0, u1, u2, u3⟩ := FB7.out.four; have uf := FB7.out.free; have HOX : Hid (Ow txtS 9 w7 w1.heap.size (.slice a7 (ts.length + 1) c7) (ts ++ [[]])) := ho7; clear ho7 hg7 at7)
      obtain ⟨w6, hw6⟩ : ∃ x, x = (w7).setCell ⟨X + 1, 1, none⟩ (.slice a7 (ts.length + 1) c7) := ⟨_, rfl⟩
      rw [← hw6]
      have FA6 : Hid (Bk w6 X 29 [.int .i64 out, .slice a ts.length cap, .int .i64 ix, .int .i64 why]) := by show Bk _ _ _ _; rw [hw6]; exact FA7.out.kept kept_set (by simp)
      have FB6 : Hid (Bk w6 (X + 1) 29 [.int .i64 out, .slice a7 (ts.length + 1) c7, .int .i64 ix, .int .i64 why]) := by show Bk _ _ _ _; rw [hw6]; exact FB7.out.set 1 _
      have K6 : Hid (Kept (fun _ => True) w w6) := by show Kept _ _ _; rw [hw6]; exact kept_fresh KW7.out (by rw [← HX.out]; exact Nat.le_succ X) _
      have HA6 : Hid (Vw txtS w6 a ts) := HV0.out.all K6.out
      have HB6 : Hid (Vw txtS w6 a7 (ts ++ [[]])) := by
        have h1 : Ow txtS 9 w6 w1.heap.size (.slice a7 (ts.length + 1) c7) (ts ++ [[]]) := by
          rw [hw6]
          exact Ow.kept (S := txtS) HOX.out kept_set (fun k hk => by have h2 := (World.ownsRow.lt HOX.out k hk).1; have h3 := HSZ.out; omega)
        exact h1.view
      have SAB : ∀ W, Kept (fun _ => True) w6 W → Calls Try.prog 13 #[.agg #[.int .i64 out, .slice a ts.length cap, .int .i64 ix, .int .i64 why], .agg #[.int .i64 out, .slice a7 (ts.length + 1) c7, .int .i64 ix, .int .i64 why]] W fun e w' => e = .returned (.bool false) ∧ Kept (fun _ => True) W w' := fun W k => by
        have := same_any (c := cap) (c' := c7) out ix why out ix why (HA6.out.all k) (HB6.out.all k) (by have := HN.out; omega)
        rw [show (decide (out = out) && decide (ts = ts ++ [[]]) && decide (ix = ix) && decide (why = why)) = false by simp [HNT.out.1]] at this; rw [List.length_append] at this; exact this
      have SBA : ∀ W, Kept (fun _ => True) w6 W → Calls Try.prog 13 #[.agg #[.int .i64 out, .slice a7 (ts.length + 1) c7, .int .i64 ix, .int .i64 why], .agg #[.int .i64 out, .slice a ts.length cap, .int .i64 ix, .int .i64 why]] W fun e w' => e = .returned (.bool false) ∧ Kept (fun _ => True) W w' := fun W k => by
        have := same_any (c := c7) (c' := cap) out ix why out ix why (HB6.out.all k) (HA6.out.all k) (by have := HN.out; simp only [List.length_append, List.length_singleton]; omega)
        rw [show (decide (out = out) && decide (ts ++ [[]] = ts) && decide (ix = ix) && decide (why = why)) = false by simp [HNT.out.2]] at this; rw [List.length_append] at this; exact this
      clear hw6 x0 x1 x2 x3 y0 y1 y2 y3 yf
      obtain ⟨x0, x1, x2, x3⟩ := FA6.out.four
      obtain ⟨y0, y1, y2, y3⟩ := FB6.out.four
      go_wp2_with (first
        | (go_at_call 13; (with_reducible refine Calls.mono (SAB _ (Kept.refl _ _)) ?_); rintro e w7 ⟨rfl, k7⟩; obtain ⟨p0, p1, p2, p3⟩ := (FA6.out.kept k7 trivial).four; obtain ⟨q0, q1, q2, q3⟩ := (FB6.out.kept k7 trivial).four; clear SAB)
        | (go_at_call 13; (with_reducible refine Calls.mono (SBA _ k7) ?_); rintro e w8 ⟨rfl, k8⟩; clear SBA)
        | (go_at_call 10; (with_reducible refine Calls.mono (known_any _) ?_); rintro e w9 ⟨rfl, k9⟩))
      go_ret
      exact ⟨rfl, ((K6.out.trans k7).trans k8).trans k9⟩
    · obtain ⟨yv, hy⟩ : ∃ y, bits .xor .i64 out 1 = y := ⟨_, rfl⟩
      have HNY : Hid (out ≠ yv ∧ yv ≠ out) := by
        have := xor_ne out
        rw [hy] at this
        exact ⟨fun e => this e.symm, this⟩
      have FA7 : Hid (Bk wc X 29 [.int .i64 out, .slice a ts.length cap, .int .i64 ix, .int .i64 why]) := FA.out.kept K5.out trivial
      have FB7 : Hid (Bk wc (X + 1) 29 [.int .i64 out, .slice ao' ts.length cap', .int .i64 ix, .int .i64 why]) := FB.out.kept K5.out trivial
      have KW7 : Hid (Kept (fun _ => True) w wc) := K3.out.trans K5.out
      have HOX : Hid (Ow txtS 9 wc w1.heap.size (.slice ao' ts.length cap') ts) := Ow.all (S := txtS) HOB.out K5.out
      go_upto_region 15 with fail
      obtain ⟨w6, hw6⟩ : ∃ x, x = (wc).setCell ⟨X + 1, 0, none⟩ (.int .i64 yv) := ⟨_, rfl⟩
      rw [← hw6]
      have FA6 : Hid (Bk w6 X 29 [.int .i64 out, .slice a ts.length cap, .int .i64 ix, .int .i64 why]) := by show Bk _ _ _ _; rw [hw6]; exact FA7.out.kept kept_set (by simp)
      have FB6 : Hid (Bk w6 (X + 1) 29 [.int .i64 yv, .slice ao' ts.length cap', .int .i64 ix, .int .i64 why]) := by show Bk _ _ _ _; rw [hw6]; exact FB7.out.set 0 _
      have K6 : Hid (Kept (fun _ => True) w w6) := by show Kept _ _ _; rw [hw6]; exact kept_fresh KW7.out (by rw [← HX.out]; exact Nat.le_succ X) _
      have HA6 : Hid (Vw txtS w6 a ts) := HV0.out.all K6.out
      have HB6 : Hid (Vw txtS w6 ao' ts) := by
        have h1 : Ow txtS 9 w6 w1.heap.size (.slice ao' ts.length cap') ts := by
          rw [hw6]
          exact Ow.kept (S := txtS) HOX.out kept_set (fun k hk => by have h2 := (World.ownsRow.lt HOX.out k hk).1; have h3 := HSZ.out; omega)
        exact h1.view
      have SAB : ∀ W, Kept (fun _ => True) w6 W → Calls Try.prog 13 #[.agg #[.int .i64 out, .slice a ts.length cap, .int .i64 ix, .int .i64 why], .agg #[.int .i64 yv, .slice ao' ts.length cap', .int .i64 ix, .int .i64 why]] W fun e w' => e = .returned (.bool false) ∧ Kept (fun _ => True) W w' := fun W k => by
        have := same_any (c := cap) (c' := cap') out ix why yv ix why (HA6.out.all k) (HB6.out.all k) (by have := HN.out; omega)
        rw [show (decide (out = yv) && decide (ts = ts) && decide (ix = ix) && decide (why = why)) = false by simp [HNY.out.1]] at this; exact this
      have SBA : ∀ W, Kept (fun _ => True) w6 W → Calls Try.prog 13 #[.agg #[.int .i64 yv, .slice ao' ts.length cap', .int .i64 ix, .int .i64 why], .agg #[.int .i64 out, .slice a ts.length cap, .int .i64 ix, .int .i64 why]] W fun e w' => e = .returned (.bool false) ∧ Kept (fun _ => True) W w' := fun W k => by
        have := same_any (c := cap') (c' := cap) yv ix why out ix why (HB6.out.all k) (HA6.out.all k) (by have := HN.out; omega)
        rw [show (decide (yv = out) && decide (ts = ts) && decide (ix = ix) && decide (why = why)) = false by simp [HNY.out.2]] at this; exact this
      clear hw6 x0 x1 x2 x3 y0 y1 y2 y3 yf
      obtain ⟨x0, x1, x2, x3⟩ := FA6.out.four
      obtain ⟨y0, y1, y2, y3⟩ := FB6.out.four
      go_wp2_with (first
        | (go_at_call 13; (with_reducible refine Calls.mono (SAB _ (Kept.refl _ _)) ?_); rintro e w7 ⟨rfl, k7⟩; obtain ⟨p0, p1, p2, p3⟩ := (FA6.out.kept k7 trivial).four; obtain ⟨q0, q1, q2, q3⟩ := (FB6.out.kept k7 trivial).four; clear SAB)
        | (go_at_call 13; (with_reducible refine Calls.mono (SBA _ k7) ?_); rintro e w8 ⟨rfl, k8⟩; clear SBA)
        | (go_at_call 10; (with_reducible refine Calls.mono (known_any _) ?_); rintro e w9 ⟨rfl, k9⟩))
      go_ret
      exact ⟨rfl, ((K6.out.trans k7).trans k8).trans k9⟩

end Go.Proofs.Ytllopkebamlgeaa
