/-
  The document's Scan.
-/
import Derived.Test.YtjobddbcalafhaaWKnown
import Derived.BigRegion
import Derived.Deep.CutRange
namespace Go.Proofs.Ytjobddbcalafhaa
open Go.RowKit

theorem word_or (a b c d : Nat) (_ha : a < 256) (hb : b < 256) (hc : c < 256) (hd : d < 256) : ((a * 16777216 ||| b * 65536) ||| c * 256) ||| d = a * 16777216 + b * 65536 + c * 256 + d := by
  have e1 : a * 16777216 ||| b * 65536 = a * 16777216 + b * 65536 := by
    have := Nat.two_pow_add_eq_or_of_lt (i := 24) (b := b * 65536) (by omega) a
    rw [show (2 : Nat) ^ 24 = 16777216 from rfl, Nat.mul_comm 16777216 a] at this
    exact this.symm
  have e2 : (a * 16777216 + b * 65536) ||| c * 256 = a * 16777216 + b * 65536 + c * 256 := by
    have := Nat.two_pow_add_eq_or_of_lt (i := 16) (b := c * 256) (by omega) (a * 256 + b)
    rw [show (2 : Nat) ^ 16 * (a * 256 + b) = a * 16777216 + b * 65536 by omega] at this
    exact this.symm
  have e3 : (a * 16777216 + b * 65536 + c * 256) ||| d = a * 16777216 + b * 65536 + c * 256 + d := by
    have := Nat.two_pow_add_eq_or_of_lt (i := 8) (b := d) (by omega) (a * 65536 + b * 256 + c)
    rw [show (2 : Nat) ^ 8 * (a * 65536 + b * 256 + c) = a * 16777216 + b * 65536 + c * 256 by omega] at this
    exact this.symm
  rw [e1, e2, e3]

theorem word_bits (a b c d : Nat) (ha : a < 256) (hb : b < 256) (hc : c < 256) (hd : d < 256) :
    bits BinOp.or .u32 (bits BinOp.or .u32 (bits BinOp.or .u32 ((a : Int) * 16777216) ((b : Int) * 65536)) ((c : Int) * 256)) (d : Int) = ((a * 16777216 + b * 65536 + c * 256 + d : Nat) : Int) := by
  have h1 : bits BinOp.or .u32 ((a : Int) * 16777216) ((b : Int) * 65536) = ((a * 16777216 ||| b * 65536 : Nat) : Int) := u32_or_nat (a * 16777216) (b * 65536) (by omega) (by omega)
  have l1 := or_lt32 (a := a * 16777216) (b := b * 65536) (by omega) (by omega)
  have h2 : bits BinOp.or .u32 ((a * 16777216 ||| b * 65536 : Nat) : Int) ((c : Int) * 256) = (((a * 16777216 ||| b * 65536) ||| c * 256 : Nat) : Int) := u32_or_nat _ (c * 256) l1 (by omega)
  have l2 := or_lt32 (b := c * 256) l1 (by omega)
  rw [h1, h2, u32_or_nat _ d l2 (by omega), word_or a b c d ha hb hc hd]

theorem i64_or_nat (a b : Nat) (ha : a < 9223372036854775808) (hb : b < 9223372036854775808) : bits BinOp.or .i64 (a : Int) (b : Int) = ((a ||| b : Nat) : Int) := by
  have hx : a ||| b < 2 ^ 63 := Nat.or_lt_two_pow (by omega) (by omega)
  show IntKind.i64.wrap ((BitVec.ofInt 64 (a : Int) ||| BitVec.ofInt 64 (b : Int)).toNat : Int) = _
  rw [BitVec.toNat_or, ofInt_u64 a (by omega), ofInt_u64 b (by omega)]
  simp [IntKind.wrap, IntKind.bits, IntKind.signed]
  omega
theorem wrap_small (z : Int) (h0 : 0 ≤ z) (h1 : z < 9223372036854775808) : IntKind.i64.wrap z = z := by
  simp [IntKind.wrap, IntKind.bits, IntKind.signed]
  omega
theorem word_bits64 (a b c d : Nat) (ha : a < 256) (hb : b < 256) (hc : c < 256) (hd : d < 256) :
    bits BinOp.or .i64 (bits BinOp.or .i64 (bits BinOp.or .i64 ((a : Int) * 16777216) ((b : Int) * 65536)) ((c : Int) * 256)) (d : Int) = ((a * 16777216 + b * 65536 + c * 256 + d : Nat) : Int) := by
  have h1 : bits BinOp.or .i64 ((a : Int) * 16777216) ((b : Int) * 65536) = ((a * 16777216 ||| b * 65536 : Nat) : Int) := i64_or_nat (a * 16777216) (b * 65536) (by omega) (by omega)
  have l1 := or_lt32 (a := a * 16777216) (b := b * 65536) (by omega) (by omega)
  have h2 : bits BinOp.or .i64 ((a * 16777216 ||| b * 65536 : Nat) : Int) ((c : Int) * 256) = (((a * 16777216 ||| b * 65536) ||| c * 256 : Nat) : Int) := i64_or_nat _ (c * 256) (by omega) (by omega)
  have l2 := or_lt32 (b := c * 256) l1 (by omega)
  rw [h1, h2, i64_or_nat _ d (by omega) (by omega), word_or a b c d ha hb hc hd]
theorem be_four (b : List UInt8) (p : Nat) (h : p + 4 ≤ b.length) : be ((b.drop p).take 4) = (b[p]).toNat * 16777216 + (b[p + 1]).toNat * 65536 + (b[p + 2]).toNat * 256 + (b[p + 3]).toNat := by
  have e : (b.drop p).take 4 = [b[p], b[p + 1], b[p + 2], b[p + 3]] := by
    rw [List.drop_eq_getElem_cons (by omega), List.drop_eq_getElem_cons (by omega), List.drop_eq_getElem_cons (by omega), List.drop_eq_getElem_cons (by omega)]
    rfl
  rw [e]
  simp only [be, List.foldl_cons, List.foldl_nil]
  omega

set_option maxRecDepth 100000 in
set_option maxHeartbeats 4000000 in
theorem rscan_any {w : World} {ao : Option Addr} {n cap : Nat} {b : List UInt8} (h : View w ao n cap b) (hl : n ≤ 1099511627776) :
    Calls Try.prog 14 #[.slice ao n cap] w fun e w' => ∃ v, e = .returned (.tuple #[v, .int .i64 ((scanOf b).2 : Nat)]) ∧ Txs w' w.heap.size v (scanOf b).1 ∧ Kept (fun _ => True) w w' := by
  have HV : Hid (View w ao n cap b) := h
  clear h
  go_enter Try.func14, Try.ntmps14
  go_wp2_with fail
  go_loopw [4, 5] (fun t4 t5 wr => ∃ (out : List (List UInt8)) (p tc : Nat) (ta : Option Addr), At b out p ∧ out.length ≤ p ∧ t4 = .slice ta out.length tc ∧ t5 = .int .i64 p ∧ Txs wr w.heap.size (.slice ta out.length tc) out ∧ Kept (fun _ => True) w wr) (fun _ t5 _ => n - (intOf t5).toNat)
  case atStart => exact ⟨[], 0, 0, none, At.start b, Nat.le_refl _, rfl, rfl, Txs.nil _ _, Kept.refl _ _⟩
  case round =>
    obtain ⟨out, p, tc, ta, hA, hop, rfl, rfl, hT, hk⟩ := hrel
    have hlen := HV.out.len
    have hp := hA.le
    have HA : Hid (At b out p) := hA
    have HK : Hid (Kept (fun _ => True) w wr) := hk
    have HT : Hid (Txs wr w.heap.size (.slice ta out.length tc) out) := hT
    clear hA hT hk
    have hw1 : IntKind.i64.wrap ((n : Int) - (p : Int)) = (n : Int) - (p : Int) := wrap_small _ (by omega) (by omega)
    have hdl : (b.drop p).length = n - p := by rw [List.length_drop, hlen]
    by_cases h9 : n - p < 9
    · have h9' : ¬ (9 : Int) ≤ (n : Int) - (p : Int) := by omega
      have HD : Hid (headOf (b.drop p) = none) := headOf_short (by omega)
      clear hdl
      go_wp2_with fail
      go_ret2
      rw [HA.out.stop HD.out]
      exact ⟨_, rfl, HT.out, HK.out⟩
    · have h9' : (9 : Int) ≤ (n : Int) - (p : Int) := by omega
      have hH : headOf (b.drop p) = if n - p < 9 ∨ 4000 < be ((b.drop p).take 4) ∨ n - p < 9 + be ((b.drop p).take 4) ∨ 1 < ((b.drop p).getD 8 0).toNat ∨ crcOf (((b.drop p).drop 8).take (be ((b.drop p).take 4) + 1)) ≠ be (((b.drop p).drop 4).take 4) then none
          else some (decide (((b.drop p).getD 8 0).toNat = 1), ((b.drop p).drop 9).take (be ((b.drop p).take 4)), 9 + be ((b.drop p).take 4)) := by
        rw [← hdl]; rfl
      obtain ⟨bk, off, rfl, hc⟩ := has_plain (HV.out.has.kept HK.out (fun _ _ => trivial)) (by omega)
      have c0 := hc p (by omega)
      have c1 := hc (p + 1) (by omega)
      have c2 := hc (p + 2) (by omega)
      have c3 := hc (p + 3) (by omega)
      have hS := be_four b p (by omega)
      have y0 := (b[p]'(by omega)).toNat_lt
      have y1 := (b[p + 1]'(by omega)).toNat_lt
      have y2 := (b[p + 2]'(by omega)).toNat_lt
      have y3 := (b[p + 3]'(by omega)).toNat_lt
      have hSl : be ((b.drop p).take 4) < 4294967296 := by
        have := be_lt ((b.drop p).take 4)
        rw [List.length_take_of_le (by omega)] at this
        exact this
      generalize (b[p]'(by omega)).toNat = b0 at *
      generalize (b[p + 1]'(by omega)).toNat = b1 at *
      generalize (b[p + 2]'(by omega)).toNat = b2 at *
      generalize (b[p + 3]'(by omega)).toNat = b3 at *
      generalize be ((b.drop p).take 4) = S at *
      have hi0 : (0 : Int) ≤ (p : Int) := by omega
      have hi1 : (p : Int) < (n : Int) := by omega
      have hi2 : (p : Int) + 1 < (n : Int) := by omega
      have hi3 : (p : Int) + 2 < (n : Int) := by omega
      have hi4 : (p : Int) + 3 < (n : Int) := by omega
      have hw2 : IntKind.i64.wrap ((p : Int) + 1) = (p : Int) + 1 := wrap_small _ (by omega) (by omega)
      have hw3 : IntKind.i64.wrap ((p : Int) + 2) = (p : Int) + 2 := wrap_small _ (by omega) (by omega)
      have hw4 : IntKind.i64.wrap ((p : Int) + 3) = (p : Int) + 3 := wrap_small _ (by omega) (by omega)
      have hw5 : IntKind.i64.wrap (9 + (S : Int)) = 9 + (S : Int) := wrap_small _ (by omega) (by omega)
      have HC : Hid (∀ j (hj : j < b.length), wr.cell? ⟨bk, off + j, none⟩ = some (.int .u8 (b[j]).toNat)) := hc
      have HH : Hid (headOf (b.drop p) = _) := hH
      have hbits := word_bits64 b0 b1 b2 b3 y0 y1 y2 y3
      rw [← hS] at hbits
      clear hc hH hS
      go_upto_region 4 with fail
      go_cut [6] from 14 to 42 (fun t wx => t = .int .i64 S ∧ ∃ m, wx = wr.drewN m)
      case first =>
        go_quiet (fail)
        go_wp2_with fail
        go_meet
        exact ⟨rfl, _, rfl⟩
      case rest =>
      obtain ⟨rfl, nq, rfl⟩ := hcut
      clear hbits c0 c1 c2 c3 y0 y1 y2 y3 hi1 hi2 hi3 hi4 hw2 hw3 hw4
      by_cases hA1 : 4000 < S
      · have hA1' : (4000 : Int) < (S : Int) := by omega
        have HD : Hid (headOf (b.drop p) = none) := by show _ = _; rw [HH.out, if_pos (.inr (.inl hA1))]
        go_wp2_with fail
        go_ret2
        rw [HA.out.stop HD.out]
        exact ⟨_, rfl, HT.out.drewN _, HK.out.drewN _⟩
      have hA1' : ¬ (4000 : Int) < (S : Int) := by omega
      by_cases hA2 : n - p < 9 + S
      · have hA2' : (n : Int) - (p : Int) < 9 + (S : Int) := by omega
        have HD : Hid (headOf (b.drop p) = none) := by show _ = _; rw [HH.out, if_pos (.inr (.inr (.inl hA2)))]
        go_wp2_with fail
        go_ret2
        rw [HA.out.stop HD.out]
        exact ⟨_, rfl, HT.out.drewN _, HK.out.drewN _⟩
      have hA2' : ¬ (n : Int) - (p : Int) < 9 + (S : Int) := by omega
      obtain ⟨a7, s7, v7⟩ := (HV.out.kept HK.out).part (p + 8) (p + 9 + S) (by omega) (by omega)
      have e7 : p + 9 + S - (p + 8) = S + 1 := by omega
      rw [e7] at s7 v7
      have s7' : ∀ w0, (Instr.slice 36 (.slice (some ⟨bk, off, none⟩) n cap) (some (.int .i64 ((p : Int) + 8))) (some (.int .i64 ((p : Int) + 9 + (S : Int)))) none).run Try.prog w0 = .ok (.slice a7 (S + 1) (cap - (p + 8))) w0 := by
        intro w0; have := s7 w0; simpa using this
      generalize cap - (p + 8) = c7 at *
      have hw6 : IntKind.i64.wrap ((p : Int) + 8) = (p : Int) + 8 := wrap_small _ (by omega) (by omega)
      have hw7 : IntKind.i64.wrap ((p : Int) + 9) = (p : Int) + 9 := wrap_small _ (by omega) (by omega)
      have hw8 : IntKind.i64.wrap ((p : Int) + 9 + (S : Int)) = (p : Int) + 9 + (S : Int) := wrap_small _ (by omega) (by omega)
      have V7 : Hid (View wr a7 (S + 1) c7 ((b.drop (p + 8)).take (S + 1))) := v7
      clear s7 v7 e7
      have c4 := HC.out (p + 4) (by omega)
      have c5 := HC.out (p + 5) (by omega)
      have c6 := HC.out (p + 6) (by omega)
      have c8 := HC.out (p + 7) (by omega)
      have hC := be_four b (p + 4) (by omega)
      have hCd : (b.drop (p + 4)).take 4 = ((b.drop p).drop 4).take 4 := by rw [List.drop_drop]
      rw [hCd] at hC
      have y4 := (b[p + 4]'(by omega)).toNat_lt
      have y5 := (b[p + 5]'(by omega)).toNat_lt
      have y6 := (b[p + 6]'(by omega)).toNat_lt
      have y7 := (b[p + 7]'(by omega)).toNat_lt
      have hC' : be (((b.drop p).drop 4).take 4) = (b[p + 4]'(by omega)).toNat * 16777216 + (b[p + 5]'(by omega)).toNat * 65536 + (b[p + 6]'(by omega)).toNat * 256 + (b[p + 7]'(by omega)).toNat := hC
      clear hC hCd
      have hpart : ((b.drop p).getD 8 0).toNat = (b[p + 8]'(by omega)).toNat := by simp [show p + 8 < b.length by omega]
      have hcrcl : ((b.drop p).drop 8).take (S + 1) = (b.drop (p + 8)).take (S + 1) := by rw [List.drop_drop]
      have hrecl : ((b.drop p).drop 9).take S = ((b.drop (p + 8)).take (S + 1)).drop 1 := by rw [List.drop_take, List.drop_drop, List.drop_drop]; rfl
      have HP0 : Hid (∀ h : 0 < ((b.drop (p + 8)).take (S + 1)).length, (((b.drop (p + 8)).take (S + 1))[0]'h).toNat = (b[p + 8]'(by omega)).toNat) := fun h => by simp
      have HH2 := HH.out
      rw [hpart, hcrcl, hrecl] at HH2
      generalize (b[p + 8]'(by omega)).toNat = K at *
      generalize (b[p + 4]'(by omega)).toNat = b0 at *
      generalize (b[p + 5]'(by omega)).toNat = b1 at *
      generalize (b[p + 6]'(by omega)).toNat = b2 at *
      generalize (b[p + 7]'(by omega)).toNat = b3 at *
      generalize be (((b.drop p).drop 4).take 4) = C at *
      generalize (b.drop (p + 8)).take (S + 1) = part at *
      have HH3 : Hid (headOf (b.drop p) = if n - p < 9 ∨ 4000 < S ∨ n - p < 9 + S ∨ 1 < K ∨ crcOf part ≠ C then none else some (decide (K = 1), part.drop 1, 9 + S)) := HH2
      have hi5 : (p : Int) + 4 < (n : Int) := by omega
      have hi6 : (p : Int) + 5 < (n : Int) := by omega
      have hi7 : (p : Int) + 6 < (n : Int) := by omega
      have hi8 : (p : Int) + 7 < (n : Int) := by omega
      have hx4 : IntKind.i64.wrap ((p : Int) + 4) = (p : Int) + 4 := wrap_small _ (by omega) (by omega)
      have hx5 : IntKind.i64.wrap ((p : Int) + 5) = (p : Int) + 5 := wrap_small _ (by omega) (by omega)
      have hx6 : IntKind.i64.wrap ((p : Int) + 6) = (p : Int) + 6 := wrap_small _ (by omega) (by omega)
      have hx7 : IntKind.i64.wrap ((p : Int) + 7) = (p : Int) + 7 := wrap_small _ (by omega) (by omega)
      have hbits := word_bits b0 b1 b2 b3 y4 y5 y6 y7
      rw [← hC'] at hbits
      clear hC' HH2 hpart hcrcl hrecl HC
      go_upto_region 7 with fail
      go_cut [8] from 62 to 91 (fun t wx => t = .int .u32 C ∧ ∃ m, wx = wr.drewN m)
      case first =>
        go_quiet (fail)
        go_wp2_with fail
        go_meet
        exact ⟨rfl, _, rfl⟩
      case rest =>
      obtain ⟨rfl, nq2, rfl⟩ := hcut
      clear hbits c4 c5 c6 c8 y4 y5 y6 y7 hi5 hi6 hi7 hi8 hx4 hx5 hx6 hx7
      have v7l := V7.out.len
      have VV : View (wr.drewN nq2) a7 (S + 1) c7 part := V7.out.kept ((Kept.refl _ _).drewN nq2)
      have HKd : Hid (Kept (fun _ => True) w (wr.drewN nq2)) := HK.out.drewN _
      have HTd : Hid (Txs (wr.drewN nq2) w.heap.size (.slice ta out.length tc) out) := HT.out.drewN _
      obtain ⟨b7, o7, rfl, hc7⟩ := has_plain VV.has (by omega)
      have k0 := hc7 0 (by omega)
      rw [HP0.out (by omega), Nat.add_zero] at k0
      have c := rcrc_at VV.has VV.len (cap := c7) (by omega)
      obtain ⟨a8, s8, v8⟩ := VV.tail 1 (by omega)
      have hcv := v8.conv
      replace s8 : ∀ w0, (Instr.slice 36 (.slice (some ⟨b7, o7, none⟩) (S + 1) c7) (some (.int .i64 1)) none none).run Try.prog w0 = .ok (.slice a8 (S + 1 - 1) (c7 - 1)) w0 := s8
      rw [Nat.add_sub_cancel] at s8 hcv
      have hrl : (part.drop 1).length = S := by rw [List.length_drop, v7l]; omega
      generalize c7 - 1 = c9 at *
      generalize part.drop 1 = r at *
      generalize crcOf part = X at *
      generalize wr.drewN nq2 = wd at *
      clear hc7 VV v8 V7 HP0 HK HT
      have hpS : (0 : Int) < (S : Int) + 1 := by omega
      by_cases hA3 : 1 < K
      · have hA3' : (1 : Int) < (K : Int) := by omega
        have HD : Hid (headOf (b.drop p) = none) := by show _ = _; rw [HH3.out, if_pos (.inr (.inr (.inr (.inl hA3))))]
        go_wp2_with fail
        go_ret2
        rw [HA.out.stop HD.out]
        exact ⟨_, rfl, HTd.out, HKd.out⟩
      have hA3' : ¬ (1 : Int) < (K : Int) := by omega
      by_cases hA4 : X = C
      · have HD : Hid (headOf (b.drop p) = some (decide (K = 1), r, 9 + S)) := by
          show _ = _
          rw [HH3.out, if_neg]
          rintro (h | h | h | h | h)
          · exact h9 h
          · exact hA1 h
          · exact hA2 h
          · exact hA3 h
          · exact h hA4
        subst hA4
        clear HH3
        go_wp2_with fail
        refine Calls.mono c ?_
        rintro e wd ⟨rfl, rfl⟩
        rcases (by omega : K = 0 ∨ K = 1) with rfl | rfl
        · go_wp2_with (at_builtin; refine wpList_append_text rfl (.tmp 106) (.tmp 110) rfl w.heap.size (.slice ta out.length tc) out rfl (HTd.out.fresh _) (Nat.le_trans HKd.out.size (by simp)) wd.heap.size rfl r _ (heap_alloc_new wd _) (by omega) ?_; intro a2 c2 w2 ht2 hg2 hl2)
          go_roundw
          case rel =>
            refine ⟨out ++ [r], p + (9 + S), c2, a2, HA.out.next HD.out, by simp; omega, by simp, by go_num, ?_, HTd.out.grown HKd.out hg2⟩
            simpa using ht2
          case measure => simp [intOf]; omega
        · go_wp2_with (at_builtin; refine wpList_append_text rfl (.tmp 106) (.tmp 110) rfl w.heap.size (.slice none 0 0) [] rfl (Txs.nil _ _) (Nat.le_trans HKd.out.size (by simp)) wd.heap.size rfl r _ (heap_alloc_new wd _) (by simp) ?_; intro a2 c2 w2 ht2 hg2 hl2)
          go_roundw
          case rel =>
            refine ⟨[] ++ [r], p + (9 + S), c2, a2, HA.out.next HD.out, by simp; omega, by simp, by go_num, ?_, (Txs.nil wd w.heap.size).grown HKd.out hg2⟩
            simpa using ht2
          case measure => simp [intOf]; omega
      · have HD : Hid (headOf (b.drop p) = none) := by show _ = _; rw [HH3.out, if_pos (.inr (.inr (.inr (.inr hA4))))]
        have hA4' : ((X : Int) == (C : Int)) = false := by simp; omega
        go_wp2_with fail
        refine Calls.mono c ?_
        rintro e wd ⟨rfl, rfl⟩
        go_wp2_with fail
        go_ret2
        rw [HA.out.stop HD.out]
        exact ⟨_, rfl, HTd.out, HKd.out⟩

end Go.Proofs.Ytjobddbcalafhaa
