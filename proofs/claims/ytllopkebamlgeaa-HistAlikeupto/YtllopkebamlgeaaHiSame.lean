/-
  hist.Same: replies held against each other.
-/
import Derived.Test.YtllopkebamlgeaaIArgs
import Derived.Test.YtllopkebamlgeaaMGz
namespace Go.Proofs.Ytllopkebamlgeaa
open Go.RowKit Go.Maps Go.Sort

theorem bytes_beq (a b : List UInt8) : ((⟨a.toArray⟩ : ByteArray).toList == (⟨b.toArray⟩ : ByteArray).toList) = (a == b) := by
  rw [ByteArray.toList_eq, ByteArray.toList_eq]
theorem cell_keptI {p : Nat → Prop} {w w' : World} {b o : Nat} {v : Value} (k : Kept p w w') (h : w.cell? ⟨b, o, none⟩ = some v) (hp : p b) : w'.cell? ⟨b, o, none⟩ = some v := (kept_cell k (World.block_lt_of_cell? w _ h) hp).trans h
theorem txt_at {w : World} {a : Option Addr} {ts : List (List UInt8)} (h : Vw txtS w a ts) : ∀ i (hi : i < ts.length), ∃ b off, a = some ⟨b, off, none⟩ ∧ w.cell? ⟨b, off + i, none⟩ = some (.string ⟨(ts[i]).toArray⟩) := fun i hi => by
  obtain ⟨b, off, e, _, hr⟩ := h.row (by omega)
  refine ⟨b, off, e, ?_⟩
  have := hr i hi 0 _ rfl
  rw [show txtS.n = 1 from rfl, Nat.mul_one] at this
  exact this

set_option maxRecDepth 100000 in
set_option maxHeartbeats 4000000 in
theorem equal_any {w : World} {a a' : Option Addr} {c c' : Nat} {ts ts' : List (List UInt8)} (h : Vw txtS w a ts) (h' : Vw txtS w a' ts') (hn : ts.length ≤ 281474976710656) :
    Calls Try.prog 22 #[.slice a ts.length c, .slice a' ts'.length c'] w fun e w' => e = .returned (.bool (decide (ts = ts'))) ∧ Kept (fun _ => True) w w' := by
  have H : Hid (Vw txtS w a ts ∧ Vw txtS w a' ts') := ⟨h, h'⟩
  have HN : Hid (ts.length ≤ 281474976710656) := hn
  clear h h' hn
  obtain ⟨R, hR⟩ : ∃ R, R = decide (ts = ts') := ⟨_, rfl⟩
  rw [← hR]
  go_enter Try.func22, Try.ntmps22
  by_cases hl : ts.length = ts'.length
  · have HR : Hid (R = decide (ts = ts')) := hR
    have HL : Hid (ts.length = ts'.length) := hl
    rw [← hl]
    clear hl hR
    go_wp2_with fail
    go_loopw [13] (fun t wr => ∃ i : Nat, i ≤ ts.length ∧ t = .int .i64 i ∧ ts.take i = ts'.take i ∧ Kept (fun _ => True) w wr) (fun t _ => ts.length - (intOf t).toNat)
    case atStart => exact ⟨0, Nat.zero_le _, rfl, by simp, Kept.refl _ _⟩
    case round =>
      obtain ⟨i, hi, rfl, htk, hk⟩ := hrel
      obtain ⟨wB, hwB⟩ : ∃ x, x = wr := ⟨_, rfl⟩
      rw [← hwB] at hk ⊢
      clear hwB
      have HK : Hid (Kept (fun _ => True) w wB) := hk
      have HT : Hid (ts.take i = ts'.take i) := htk
      by_cases hlt : i < ts.length
      · have hlt' : i < ts'.length := by have := HL.out; omega
        obtain ⟨b, off, rfl, m0⟩ := txt_at (H.out.1.all hk) i hlt
        obtain ⟨b', off', rfl, m1⟩ := txt_at (H.out.2.all hk) i hlt'
        have i0 : (0 : Int) ≤ (i : Int) := by omega
        have i1 : (i : Int) < (ts.length : Int) := by omega
        have j1 : (i : Int) + 1 ≤ 9223372036854775807 := by have := HN.out; omega
        have HI : Hid (i < ts.length) := hlt
        have HS : Hid (ts.take (i + 1) = ts.take i ++ [ts[i]]) := List.take_succ_eq_append_getElem hlt
        have HS' : Hid (ts'.take (i + 1) = ts'.take i ++ [ts'[i]]) := List.take_succ_eq_append_getElem hlt'
        have HNE : Hid (ts[i] ≠ ts'[i] → ts ≠ ts') := fun hne e => hne (by subst e; rfl)
        have m0' : ∀ W, Kept (fun _ => True) wB W → W.cell? ⟨b, off + i, none⟩ = some (.string ⟨(ts[i]).toArray⟩) := fun W k => cell_keptI k m0 trivial
        have m1' : ∀ W, Kept (fun _ => True) wB W → W.cell? ⟨b', off' + i, none⟩ = some (.string ⟨(ts'[i]).toArray⟩) := fun W k => cell_keptI k m1 trivial
        clear hk hi htk
        generalize ts[i] = s at *
        generalize ts'[i] = s' at *
        clear hlt hlt'
        by_cases he : s = s'
        · subst he
          clear HNE
          go_upto_region 6 with fail
          refine Gz.begin (fun W => Kept (fun _ => True) wB W) (fun _ => false) (by kernel_rfl) ?_
          refine Gz.take (i := 0) (oi := { dst := some 16, op := Op.move (Operand.tmp 0), type := 27, pos := _, after := _, guard := none }) (v := ?_) rfl (by kernel_rfl) (by kernel_rfl) (by kernel_rfl) (by kernel_rfl) (fun _ _ _ h => h) (Or.inl ⟨by rfl, ?hy0⟩) (Kept.refl _ _).drew ?_
          case hy0 => (intro W hSw; (try dsimp only at hSw); go_simp; try with_reducible rfl)
          try simp only [Act.put, List.setIfInBounds_toArray, List.set_cons_zero, List.set_cons_succ]
          refine Gz.take (i := 1) (oi := { dst := some 17, op := Op.move (Operand.tmp 5), type := 3, pos := _, after := _, guard := none }) (v := ?_) rfl (by kernel_rfl) (by kernel_rfl) (by kernel_rfl) (by kernel_rfl) (fun _ _ _ h => h) (Or.inl ⟨by rfl, ?hy1⟩) (Kept.refl _ _).drew ?_
          case hy1 => (intro W hSw; (try dsimp only at hSw); go_simp; try with_reducible rfl)
          try simp only [Act.put, List.setIfInBounds_toArray, List.set_cons_zero, List.set_cons_succ]
          refine Gz.take (i := 2) (oi := { dst := some 18, op := Op.indexAddr 27 (Operand.tmp 16) (Operand.tmp 17), type := 0, pos := _, after := _, guard := none }) (v := ?_) rfl (by kernel_rfl) (by kernel_rfl) (by kernel_rfl) (by kernel_rfl) (fun _ _ _ h => h) (Or.inl ⟨by rfl, ?hy2⟩) (Kept.refl _ _).drew ?_
          case hy2 => (intro W hSw; (try dsimp only at hSw); go_simp; try with_reducible rfl)
          try simp only [Act.put, List.setIfInBounds_toArray, List.set_cons_zero, List.set_cons_succ]
          refine Gz.take (i := 3) (oi := { dst := some 19, op := Op.load 9 (Operand.tmp 18), type := 9, pos := _, after := _, guard := none }) (v := ?_) rfl (by kernel_rfl) (by kernel_rfl) (by kernel_rfl) (by kernel_rfl) (fun _ _ _ h => h) (Or.inl ⟨by rfl, ?hy3⟩) (Kept.refl _ _).drew ?_
          case hy3 => (intro W hSw; (try dsimp only at hSw); go_simp; try with_reducible rfl)
          try simp only [Act.put, List.setIfInBounds_toArray, List.set_cons_zero, List.set_cons_succ]
          refine Gz.take (i := 4) (oi := { dst := some 20, op := Op.move (Operand.tmp 1), type := 27, pos := _, after := _, guard := none }) (v := ?_) rfl (by kernel_rfl) (by kernel_rfl) (by kernel_rfl) (by kernel_rfl) (fun _ _ _ h => h) (Or.inl ⟨by rfl, ?hy4⟩) (Kept.refl _ _).drew ?_
          case hy4 => (intro W hSw; (try dsimp only at hSw); go_simp; try with_reducible rfl)
          try simp only [Act.put, List.setIfInBounds_toArray, List.set_cons_zero, List.set_cons_succ]
          refine Gz.take (i := 5) (oi := { dst := some 21, op := Op.move (Operand.tmp 5), type := 3, pos := _, after := _, guard := none }) (v := ?_) rfl (by kernel_rfl) (by kernel_rfl) (by kernel_rfl) (by kernel_rfl) (fun _ _ _ h => h) (Or.inl ⟨by rfl, ?hy5⟩) (Kept.refl _ _).drew ?_
          case hy5 => (intro W hSw; (try dsimp only at hSw); go_simp; try with_reducible rfl)
          try simp only [Act.put, List.setIfInBounds_toArray, List.set_cons_zero, List.set_cons_succ]
          refine Gz.take (i := 6) (oi := { dst := some 22, op := Op.indexAddr 27 (Operand.tmp 20) (Operand.tmp 21), type := 0, pos := _, after := _, guard := none }) (v := ?_) rfl (by kernel_rfl) (by kernel_rfl) (by kernel_rfl) (by kernel_rfl) (fun _ _ _ h => h) (Or.inl ⟨by rfl, ?hy6⟩) (Kept.refl _ _).drew ?_
          case hy6 => (intro W hSw; (try dsimp only at hSw); go_simp; try with_reducible rfl)
          try simp only [Act.put, List.setIfInBounds_toArray, List.set_cons_zero, List.set_cons_succ]
          refine Gz.take (i := 7) (oi := { dst := some 23, op := Op.load 9 (Operand.tmp 22), type := 9, pos := _, after := _, guard := none }) (v := ?_) rfl (by kernel_rfl) (by kernel_rfl) (by kernel_rfl) (by kernel_rfl) (fun _ _ _ h => h) (Or.inl ⟨by rfl, ?hy7⟩) (Kept.refl _ _).drew ?_
          case hy7 => (intro W hSw; (try dsimp only at hSw); go_simp; try with_reducible rfl)
          try simp only [Act.put, List.setIfInBounds_toArray, List.set_cons_zero, List.set_cons_succ]
          refine Gz.take (i := 8) (oi := { dst := some 24, op := Op.binOp BinOp.neq 9 (Operand.tmp 19) (Operand.tmp 23) 9, type := 4, pos := _, after := _, guard := none }) (v := ?_) rfl (by kernel_rfl) (by kernel_rfl) (by kernel_rfl) (by kernel_rfl) (fun _ _ _ h => h) (Or.inl ⟨by rfl, ?hy8⟩) (Kept.refl _ _).drew ?_
          case hy8 => (intro W hSw; (try dsimp only at hSw); go_simp; try with_reducible rfl)
          try simp only [Act.put, List.setIfInBounds_toArray, List.set_cons_zero, List.set_cons_succ]
          refine Gz.done (by kernel_rfl) ?_ _
          go_wp2_with fail
          go_roundw
          case rel => exact ⟨i + 1, HI.out, by go_num, by rw [HS.out, HS'.out, HT.out], HK.out.drew⟩
          case measure => have := HI.out; simp [intOf]; omega
        · have hb : ((⟨s.toArray⟩ : ByteArray).toList == (⟨s'.toArray⟩ : ByteArray).toList) = false := by rw [bytes_beq]; exact beq_eq_false_iff_ne.2 he
          have HRf : Hid (R = false) := by show R = _; rw [HR.out]; exact decide_eq_false (HNE.out he)
          have hb2 : (s == s') = false := beq_eq_false_iff_ne.2 he
          clear HNE he
          go_upto_region 6 with fail
          refine Gz.begin (fun W => Kept (fun _ => True) wB W) (fun _ => false) (by kernel_rfl) ?_
          refine Gz.take (i := 0) (oi := { dst := some 16, op := Op.move (Operand.tmp 0), type := 27, pos := _, after := _, guard := none }) (v := ?_) rfl (by kernel_rfl) (by kernel_rfl) (by kernel_rfl) (by kernel_rfl) (fun _ _ _ h => h) (Or.inl ⟨by rfl, ?hy0⟩) (Kept.refl _ _).drew ?_
          case hy0 => (intro W hSw; (try dsimp only at hSw); go_simp; try with_reducible rfl)
          try simp only [Act.put, List.setIfInBounds_toArray, List.set_cons_zero, List.set_cons_succ]
          refine Gz.take (i := 1) (oi := { dst := some 17, op := Op.move (Operand.tmp 5), type := 3, pos := _, after := _, guard := none }) (v := ?_) rfl (by kernel_rfl) (by kernel_rfl) (by kernel_rfl) (by kernel_rfl) (fun _ _ _ h => h) (Or.inl ⟨by rfl, ?hy1⟩) (Kept.refl _ _).drew ?_
          case hy1 => (intro W hSw; (try dsimp only at hSw); go_simp; try with_reducible rfl)
          try simp only [Act.put, List.setIfInBounds_toArray, List.set_cons_zero, List.set_cons_succ]
          refine Gz.take (i := 2) (oi := { dst := some 18, op := Op.indexAddr 27 (Operand.tmp 16) (Operand.tmp 17), type := 0, pos := _, after := _, guard := none }) (v := ?_) rfl (by kernel_rfl) (by kernel_rfl) (by kernel_rfl) (by kernel_rfl) (fun _ _ _ h => h) (Or.inl ⟨by rfl, ?hy2⟩) (Kept.refl _ _).drew ?_
          case hy2 => (intro W hSw; (try dsimp only at hSw); go_simp; try with_reducible rfl)
          try simp only [Act.put, List.setIfInBounds_toArray, List.set_cons_zero, List.set_cons_succ]
          refine Gz.take (i := 3) (oi := { dst := some 19, op := Op.load 9 (Operand.tmp 18), type := 9, pos := _, after := _, guard := none }) (v := ?_) rfl (by kernel_rfl) (by kernel_rfl) (by kernel_rfl) (by kernel_rfl) (fun _ _ _ h => h) (Or.inl ⟨by rfl, ?hy3⟩) (Kept.refl _ _).drew ?_
          case hy3 => (intro W hSw; (try dsimp only at hSw); go_simp; try with_reducible rfl)
          try simp only [Act.put, List.setIfInBounds_toArray, List.set_cons_zero, List.set_cons_succ]
          refine Gz.take (i := 4) (oi := { dst := some 20, op := Op.move (Operand.tmp 1), type := 27, pos := _, after := _, guard := none }) (v := ?_) rfl (by kernel_rfl) (by kernel_rfl) (by kernel_rfl) (by kernel_rfl) (fun _ _ _ h => h) (Or.inl ⟨by rfl, ?hy4⟩) (Kept.refl _ _).drew ?_
          case hy4 => (intro W hSw; (try dsimp only at hSw); go_simp; try with_reducible rfl)
          try simp only [Act.put, List.setIfInBounds_toArray, List.set_cons_zero, List.set_cons_succ]
          refine Gz.take (i := 5) (oi := { dst := some 21, op := Op.move (Operand.tmp 5), type := 3, pos := _, after := _, guard := none }) (v := ?_) rfl (by kernel_rfl) (by kernel_rfl) (by kernel_rfl) (by kernel_rfl) (fun _ _ _ h => h) (Or.inl ⟨by rfl, ?hy5⟩) (Kept.refl _ _).drew ?_
          case hy5 => (intro W hSw; (try dsimp only at hSw); go_simp; try with_reducible rfl)
          try simp only [Act.put, List.setIfInBounds_toArray, List.set_cons_zero, List.set_cons_succ]
          refine Gz.take (i := 6) (oi := { dst := some 22, op := Op.indexAddr 27 (Operand.tmp 20) (Operand.tmp 21), type := 0, pos := _, after := _, guard := none }) (v := ?_) rfl (by kernel_rfl) (by kernel_rfl) (by kernel_rfl) (by kernel_rfl) (fun _ _ _ h => h) (Or.inl ⟨by rfl, ?hy6⟩) (Kept.refl _ _).drew ?_
          case hy6 => (intro W hSw; (try dsimp only at hSw); go_simp; try with_reducible rfl)
          try simp only [Act.put, List.setIfInBounds_toArray, List.set_cons_zero, List.set_cons_succ]
          refine Gz.take (i := 7) (oi := { dst := some 23, op := Op.load 9 (Operand.tmp 22), type := 9, pos := _, after := _, guard := none }) (v := ?_) rfl (by kernel_rfl) (by kernel_rfl) (by kernel_rfl) (by kernel_rfl) (fun _ _ _ h => h) (Or.inl ⟨by rfl, ?hy7⟩) (Kept.refl _ _).drew ?_
          case hy7 => (intro W hSw; (try dsimp only at hSw); go_simp; try with_reducible rfl)
          try simp only [Act.put, List.setIfInBounds_toArray, List.set_cons_zero, List.set_cons_succ]
          refine Gz.take (i := 8) (oi := { dst := some 24, op := Op.binOp BinOp.neq 9 (Operand.tmp 19) (Operand.tmp 23) 9, type := 4, pos := _, after := _, guard := none }) (v := ?_) rfl (by kernel_rfl) (by kernel_rfl) (by kernel_rfl) (by kernel_rfl) (fun _ _ _ h => h) (Or.inl ⟨by rfl, ?hy8⟩) (Kept.refl _ _).drew ?_
          case hy8 => (intro W hSw; (try dsimp only at hSw); go_simp; try with_reducible rfl)
          try simp only [Act.put, List.setIfInBounds_toArray, List.set_cons_zero, List.set_cons_succ]
          refine Gz.done (by kernel_rfl) ?_ _
          first | rw [hb] | rw [hb2] | skip
          go_wp2_with fail
          go_ret
          exact ⟨by rw [HRf.out]; rfl, HK.out.drew⟩
      · obtain rfl : i = ts.length := by omega
        have HRt : Hid (R = true) := by
          show R = _
          rw [HR.out]
          refine decide_eq_true ?_
          have := HT.out
          rwa [List.take_length, HL.out, List.take_length] at this
        clear hlt hi hk htk
        go_wp2_with fail
        go_ret
        exact ⟨by rw [HRt.out]; rfl, HK.out⟩
  · have e1 : R = false := by rw [hR]; exact decide_eq_false (fun e => hl (by rw [e]))
    subst e1
    have n1 : ((ts.length : Int) == (ts'.length : Int)) = false := beq_eq_false_iff_ne.2 (by omega)
    clear hR hl
    go_wp2_with fail
    go_ret
    exact ⟨rfl, Kept.refl _ _⟩

set_option maxRecDepth 100000 in
set_option maxHeartbeats 4000000 in
theorem same_any {w : World} {a a' : Option Addr} {c c' : Nat} {ts ts' : List (List UInt8)} (out ix why out' ix' why' : Int) (h : Vw txtS w a ts) (h' : Vw txtS w a' ts') (hn : ts.length ≤ 281474976710656) :
    Calls Try.prog 13 #[.agg #[.int .i64 out, .slice a ts.length c, .int .i64 ix, .int .i64 why], .agg #[.int .i64 out', .slice a' ts'.length c', .int .i64 ix', .int .i64 why']] w fun e w' => e = .returned (.bool (decide (out = out') && decide (ts = ts') && decide (ix = ix') && decide (why = why'))) ∧ Kept (fun _ => True) w w' := by
  obtain ⟨w1, hw1⟩ : ∃ x, x = (w.alloc (.cells #[.int .i64 out, .slice a ts.length c, .int .i64 ix, .int .i64 why] 29)).alloc (.cells #[.int .i64 out', .slice a' ts'.length c', .int .i64 ix', .int .i64 why'] 29) := ⟨_, rfl⟩
  have F1 : Bk w1 w.heap.size 29 [.int .i64 out, .slice a ts.length c, .int .i64 ix, .int .i64 why] := by rw [hw1]; exact alloc_old _ (heap_alloc_new w _)
  have F2 : Bk w1 (w.heap.size + 1) 29 [.int .i64 out', .slice a' ts'.length c', .int .i64 ix', .int .i64 why'] := by
    rw [hw1]
    have := heap_alloc_new (w.alloc (.cells #[.int .i64 out, .slice a ts.length c, .int .i64 ix, .int .i64 why] 29)) (.cells #[.int .i64 out', .slice a' ts'.length c', .int .i64 ix', .int .i64 why'] 29)
    rwa [heap_size_alloc] at this
  have K1 : Hid (Kept (fun _ => True) w w1) := by rw [hw1]; exact ((Kept.refl _ _).alloc _).alloc _
  have CE := equal_any (c := c) (c' := c') (h.all K1.out) (h'.all K1.out) hn
  obtain ⟨R, hR⟩ : ∃ R, R = (decide (out = out') && decide (ts = ts') && decide (ix = ix') && decide (why = why')) := ⟨_, rfl⟩
  rw [← hR]
  obtain ⟨B, hB⟩ : ∃ B, B = decide (ts = ts') := ⟨_, rfl⟩
  rw [← hB] at hR CE
  clear hB h h' hn
  have HF1 : Hid (Bk w1 w.heap.size 29 [.int .i64 out, .slice a ts.length c, .int .i64 ix, .int .i64 why]) := F1
  have HF2 : Hid (Bk w1 (w.heap.size + 1) 29 [.int .i64 out', .slice a' ts'.length c', .int .i64 ix', .int .i64 why']) := F2
  obtain ⟨x0, x1, x2, x3⟩ := F1.four
  obtain ⟨y0, y1, y2, y3⟩ := F2.four
  clear F1 F2
  go_enter Try.func13, Try.ntmps13
  go_upto_region 1 with fail
  rw [← hw1]
  clear hw1
  generalize w.heap.size = X at *
  by_cases h0 : out = out'
  · have d0 : decide (out = out') = true := decide_eq_true h0
    have b0 : (out == out') = true := by simp [h0]
    rw [d0, Bool.true_and] at hR
    clear d0 h0
    cases B with
    | false =>
      obtain rfl : R = false := hR
      go_wp2_with (go_at_call 22; (with_reducible refine Calls.mono CE ?_); rintro e w2 ⟨rfl, k2⟩)
      go_ret
      exact ⟨rfl, K1.out.trans k2⟩
    | true =>
      rw [Bool.true_and] at hR
      by_cases h1 : ix = ix'
      · have d1 : decide (ix = ix') = true := decide_eq_true h1
        have b1 : (ix == ix') = true := by simp [h1]
        rw [d1, Bool.true_and] at hR
        clear d1 h1
        by_cases h2 : why = why'
        · have b2 : (why == why') = true := by simp [h2]
          obtain rfl : R = true := by rw [hR]; exact decide_eq_true h2
          clear h2 hR
          go_wp2_with (go_at_call 22; (with_reducible refine Calls.mono CE ?_); rintro e w2 ⟨rfl, k2⟩; obtain ⟨p0, p1, p2, p3⟩ := (HF1.out.kept k2 trivial).four; obtain ⟨q0, q1, q2, q3⟩ := (HF2.out.kept k2 trivial).four)
          go_ret
          exact ⟨rfl, K1.out.trans k2⟩
        · have b2 : (why == why') = false := beq_eq_false_iff_ne.2 h2
          obtain rfl : R = false := by rw [hR]; exact decide_eq_false h2
          clear h2 hR
          go_wp2_with (go_at_call 22; (with_reducible refine Calls.mono CE ?_); rintro e w2 ⟨rfl, k2⟩; obtain ⟨p0, p1, p2, p3⟩ := (HF1.out.kept k2 trivial).four; obtain ⟨q0, q1, q2, q3⟩ := (HF2.out.kept k2 trivial).four)
          go_ret
          exact ⟨rfl, K1.out.trans k2⟩
      · have d1 : decide (ix = ix') = false := decide_eq_false h1
        have b1 : (ix == ix') = false := beq_eq_false_iff_ne.2 h1
        obtain rfl : R = false := by rw [hR, d1]; rfl
        clear d1 h1 hR
        go_wp2_with (go_at_call 22; (with_reducible refine Calls.mono CE ?_); rintro e w2 ⟨rfl, k2⟩; obtain ⟨p0, p1, p2, p3⟩ := (HF1.out.kept k2 trivial).four; obtain ⟨q0, q1, q2, q3⟩ := (HF2.out.kept k2 trivial).four)
        go_ret
        exact ⟨rfl, K1.out.trans k2⟩
  · have d0 : decide (out = out') = false := decide_eq_false h0
    have b0 : (out == out') = false := beq_eq_false_iff_ne.2 h0
    obtain rfl : R = false := by rw [hR, d0]; rfl
    clear d0 h0 hR
    go_wp2_with fail
    go_ret
    exact ⟨rfl, K1.out⟩

end Go.Proofs.Ytllopkebamlgeaa
