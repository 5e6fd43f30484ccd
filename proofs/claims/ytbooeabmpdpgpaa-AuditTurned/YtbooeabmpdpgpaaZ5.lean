/-
  Encode: the program's; Texts; what a Writer wrote.
-/
import Derived.Test.YtbooeabmpdpgpaaZ2
import Derived.Test.YtbooeabmpdpgpaaXWr1
import Derived.Test.YtbooeabmpdpgpaaPlain
namespace Go.Proofs.Ytbooeabmpdpgpaa
open Go.RowKit

theorem u64_nat {n : Nat} (h : n < 18446744073709551616) : u64 n = n := by
  unfold u64
  simp [IntKind.wrap, IntKind.bits, IntKind.signed]
  omega
theorem enc1_byte (b : UInt8) : enc (u64 (b.toNat : Int)) 1 = [b] := by
  have := b.toNat_lt
  rw [u64_nat (by omega)]
  simp [enc, byteAt]
theorem index_byte (bs : List UInt8) (hl : bs.length = 32) (k : Nat) (hk : k < bs.length) (w0 : World) : (Instr.index 78 (.agg (cells bs).toArray) (.int .i64 (k : Int))).run Try.prog w0 = .ok (.int .u8 (bs[k]).toNat) w0 := by
  have hz : ∀ w, (sizeOf 5).run Try.prog w = .ok 1 w := fun w => by have := size_u8 w; rwa [Try.elemBytes] at this
  have hc : (cells bs).toArray[k]? = some (.int .u8 (bs[k]).toNat) := by simpa using cells_getElem bs k hk
  have h0 : (0 : Int) ≤ (k : Int) ∧ (k : Int) < ((32 : Nat) : Int) := by omega
  simp only [Instr.index, asIntOf, Sem.run_bind, Sem.run_pure, Result.andThen_ok, run_underlying Try.underlying78, if_pos h0, hz, part, isAgg, run_underlying Try.underlying5]
  simp [hc]
theorem u8_wrap (b : UInt8) : IntKind.i64.wrap (b.toNat : Int) = (b.toNat : Int) := by
  have := b.toNat_lt
  simp [IntKind.wrap, IntKind.bits, IntKind.signed]; omega

/-- What Encode answers. -/
def EEnc (xs : List Li) (w : World) (e : Ending) (w' : World) : Prop := ∃ D, e = .returned (.slice (some ⟨D, 0, none⟩) (encL xs).length (encL xs).length) ∧ w'.heap[D]? = some (.cells (cells (encL xs)).toArray 5 (0, 0)) ∧ Kept (fun _ => True) w w' ∧ w.heap.size ≤ D

set_option maxRecDepth 100000 in
set_option maxHeartbeats 2000000 in
theorem encode_any {w : World} {ao : Option Addr} {cap : Nat} {xs : List Li} (h : Lv w ao xs) (hn : xs.length ≤ 100000) (hw : wgt xs ≤ 100000000000000) :
    Calls Try.prog 75 #[.slice ao xs.length cap] w fun e w' => EEnc xs w e w' := by
  have HV : Hid (Lv w ao xs) := h
  have HW : Hid (wgt xs ≤ 100000000000000) := hw
  clear h hw
  go_enter Try.func75, Try.ntmps75
  go_wp2_with (first
    | (go_at_call 51; (with_reducible refine Calls.mono newWriter_any ?_); rintro e w1 ⟨rfl, hwr, k1, z1⟩)
    | (go_at_call 81; (with_reducible refine Calls.mono (wfour_any (xs.length : Int) hwr (by simp)) ?_); rintro e w2 ⟨rfl, G', v', hwr2, k2, g2⟩))
  rw [u64_nat (by omega), List.nil_append] at hwr2
  have K2 : Hid (Kept (fun _ => True) w w2) := k1.then k2 (fun i hi _ => ⟨by omega, by simp⟩)
  have GL : Hid (∀ x, G' = some x → w.heap.size ≤ x) := fun x hx => by
    rcases g2 x hx with h | h
    · simp at h
    · omega
  have H2 : Hid (Wr w2 w.heap.size G' v' (enc (xs.length : Nat) 4)) := hwr2
  clear hwr hwr2 k1 k2 g2 z1
  obtain ⟨B, hB⟩ : ∃ B, B = w.heap.size := ⟨_, rfl⟩
  rw [← hB] at H2 GL ⊢
  have HB : Hid (B = w.heap.size) := hB
  clear hB
  go_loopw [15] (fun t wr => ∃ (k : Nat) (G : Option Nat) (v : Value), k ≤ xs.length ∧ t = .int .i64 k ∧ Wr wr B G v (enc (xs.length : Nat) 4 ++ encB (xs.take k)) ∧ (∀ x, G = some x → B ≤ x) ∧ Kept (fun _ => True) w wr) (fun t _ => xs.length - (intOf t).toNat)
  case atStart => exact ⟨0, G', v', Nat.zero_le _, rfl, by simpa [encB] using H2.out, GL.out, K2.out⟩
  case round =>
    obtain ⟨k, G, v, hk, rfl, hwr, gl, kr⟩ := hrel
    have lcur : (enc (xs.length : Nat) 4 ++ encB (xs.take k)).length ≤ 100000000000004 := by
      rw [List.length_append, enc_length, encB_len]
      have := wgt_take_le xs k
      have := HW.out
      omega
    by_cases hlt : k < xs.length
    · obtain ⟨b, off, rfl, hb, hc⟩ := HV.out.row (by omega)
      have hr := range_kept (hc k hlt) kr hb trivial
      have i0 : (0 : Int) ≤ (k : Int) := by omega
      have i1 : (k : Int) < (xs.length : Int) := by omega
      have hS : encB (xs.take (k + 1)) = encB (xs.take k) ++ encI xs[k] := encB_take_succ xs k hlt
      have hS2 : (enc (xs.length : Nat) 4 ++ encB (xs.take (k + 1))).length ≤ 100000000000004 := by
        rw [List.length_append, enc_length, encB_len]
        have := wgt_take_le xs (k + 1)
        have := HW.out
        omega
      rw [hS, ← List.append_assoc, List.length_append, encI_len] at hS2
      have HS : Hid (enc (xs.length : Nat) 4 ++ encB (xs.take (k + 1)) = enc (xs.length : Nat) 4 ++ encB (xs.take k) ++ encI xs[k]) := by
        show _ = _
        rw [hS, List.append_assoc]
      have HR : Hid (wr.rangeAt b (off + k * 33) (lcell xs[k])) := hr
      have HWr : Hid (Wr wr B G v (enc (xs.length : Nat) 4 ++ encB (xs.take k))) := hwr
      have HGL : Hid (∀ x, G = some x → B ≤ x) := gl
      clear hc hr hS hwr gl
      generalize enc (xs.length : Nat) 4 ++ encB (xs.take k) = cur at *
      generalize hnx : enc (xs.length : Nat) 4 ++ encB (xs.take (k + 1)) = nxt' at *
      have HNX : Hid (enc (xs.length : Nat) 4 ++ encB (xs.take (k + 1)) = nxt') := hnx
      clear hnx
      generalize xs[k] = x at *
      have lx := x.len
      have lx2 : (cells x.h).length = 32 := by rw [cells_length, lx]
      have hz := HWr.out.lt
      have ltx : (x.t).length ≤ 100000000000004 := by omega
      have lcx : cur.length + x.t.length + 36 ≤ 100000000000004 := by omega
      have CT := fun (w0 : World) (hw : Wr w0 B G v cur) => wtext_any ⟨x.t.toArray⟩ hw (by simp [ByteArray.size]; omega)
      clear hS2
      go_wp2_with (first
        | ((with_reducible apply w_loadL (d := some 18) linkP (b := b) (o := off + k * 33) (x := x)); (case hx => rfl); (case hr => exact HR.out))
        | ((with_reducible refine w_allocL (d := some 5) linkP ?_); intro w3 a5 k3 s3; have cc0 := s3.out)
        | ((with_reducible apply w_storeL (x := .tmp 5) linkP (b := wr.heap.size) (z := x) (old := zeroLi)); (case hx => rfl); (case hy => rfl); (case ha => exact a5); intro w4 a5' k4 s4; have ct := a5'.text; have hWw : Hid (Wr w4 B G v cur) := (HWr.out.kept k3 trivial (fun _ _ => trivial)).kept k4 (by omega) (fun i hi => by have := HWr.out.rowlt i hi; omega))
        | (go_at_call 53; (with_reducible refine Calls.mono (CT _ hWw.out) ?_); rintro e w5 ⟨rfl, G2, v2, hw5, k5, g5⟩)
        | ((with_reducible apply w_loadH (d := some 24) (b := wr.heap.size) (o := 1) (cs := cells x.h)); (case hx => rfl); (case hr => exact (a5'.kept k5 ⟨by omega, fun e => by have := HWr.out.rowlt _ e; omega⟩).head); (case hl => exact lx2)))
      have es : ((⟨x.t.toArray⟩ : ByteArray).size : Int) = ((x.t.length : Nat) : Int) := by simp [ByteArray.size]
      rw [es, u64_nat (by omega)] at hw5
      have HW5 : Hid (Wr w5 B G2 v2 (cur ++ enc (x.t.length : Nat) 4 ++ x.t)) := hw5
      have hz4 := k4.size
      have hz3 := kr.size
      have hz5 : wr.heap.size ≤ w4.heap.size := by omega
      have KA : Hid (Kept (fun _ => True) w w5) := by
        have hb2 := HB.out
        exact ((kr.trans k3).then k4 (fun i hi _ => by omega)).then k5 (fun i hi _ => ⟨by omega, fun e => by have := HGL.out i e; omega⟩)
      have HG2 : Hid (∀ y, G2 = some y → B ≤ y) := fun y hy => by
        rcases g5 y hy with h | h
        · exact HGL.out y h
        · omega
      clear hw5 es CT HR HWr hWw k5 g5 ct a5' k4 s4 k3 s3 a5 cc0 hz4 hz3 HGL hb
      generalize wr.heap.size = P at *
      clear hz5
      have HX : Hid (enc (x.t.length : Nat) 4 ++ x.t ++ x.h = encI x) := rfl
      have lb : (cur ++ enc (x.t.length : Nat) 4 ++ x.t).length = cur.length + 4 + x.t.length := by simp only [List.length_append, enc_length]
      have HC : Hid (nxt' = (cur ++ enc (x.t.length : Nat) 4 ++ x.t) ++ x.h) := by
        show _ = _
        rw [HS.out, ← HX.out]
        simp only [List.append_assoc]
      generalize cur ++ enc (x.t.length : Nat) 4 ++ x.t = base at *
      have HKR : Hid (Kept (fun _ => True) w wr) := kr
      clear kr HX HS
      go_loopw [25] (fun t wr => ∃ (j : Nat) (G3 : Option Nat) (v3 : Value), j ≤ 32 ∧ t = .int .i64 j ∧ Wr wr B G3 v3 (base ++ x.h.take j) ∧ (∀ y, G3 = some y → B ≤ y) ∧ Kept (fun _ => True) w wr) (fun t _ => 32 - (intOf t).toNat)
      case atStart => exact ⟨0, G2, v2, by omega, rfl, by simpa using HW5.out, HG2.out, KA.out⟩
      case round =>
        obtain ⟨j, G3, v3, hj, rfl, hw6, g3, k6⟩ := hrel
        by_cases hj2 : j < 32
        · have j0 : (0 : Int) ≤ (j : Int) := by omega
          have j1 : (j : Int) < 32 := by omega
          have hix := index_byte x.h lx j (by omega)
          have HT : Hid (base ++ x.h.take (j + 1) = base ++ x.h.take j ++ [x.h[j]'(by omega)]) := by
            show _ = _
            rw [List.take_succ_eq_append_getElem (by omega), List.append_assoc]
          have lT : ((base ++ x.h.take j).length : Int) + 1 ≤ 140737488355328 := by
            rw [List.length_append, lb, List.length_take]
            omega
          have cb := wbyte_any ((x.h[j]'(by omega)).toNat : Int) hw6 lT
          rw [enc1_byte] at cb
          have hwrap := u8_wrap (x.h[j]'(by omega))
          have K6 : Hid (Kept (fun _ => True) w wr) := k6
          have G6 : Hid (∀ y, G3 = some y → B ≤ y) := g3
          have hz6 := hw6.lt
          clear hw6 k6 g3
          generalize x.h[j]'(by omega) = by' at *
          go_wp2_with (go_at_call 52; (with_reducible refine Calls.mono cb ?_); rintro e w7 ⟨rfl, G7, v7, h7, k7, g7⟩)
          go_roundw
          case rel =>
            refine ⟨j + 1, G7, v7, by omega, by go_num, by rw [HT.out]; exact h7, fun y hy => ?_, ?_⟩
            · rcases g7 y hy with h | h
              · exact G6.out y h
              · omega
            · have hb2 := HB.out
              exact K6.out.then k7 (fun i hi _ => ⟨by omega, fun e => by have := G6.out i e; omega⟩)
          case measure => simp [intOf]; omega
        · have hj3 : j = 32 := by omega
          subst hj3
          rw [List.take_of_length_le (by omega), ← HC.out] at hw6
          go_wp2
          go_roundw
          case rel => exact ⟨k + 1, G3, v3, by omega, by go_num, by rw [HNX.out]; exact hw6, g3, k6⟩
          case measure => simp [intOf]; omega
    · have i1 : ¬ (k : Int) < (xs.length : Int) := by omega
      have hke : k = xs.length := by omega
      subst hke
      rw [List.take_length] at hwr lcur
      have HX : Hid (enc (xs.length : Nat) 4 ++ encB xs = encL xs) := rfl
      have cd := done_any hwr (by omega)
      clear hwr
      rw [HX.out] at cd
      go_wp2_with (go_at_call 54; (with_reducible refine Calls.mono cd ?_); rintro e w5 ⟨D, rfl, h5, k5, d5⟩)
      go_ret
      exact ⟨D, rfl, h5, kr.trans k5, Nat.le_trans kr.size d5⟩

end Go.Proofs.Ytbooeabmpdpgpaa
