/-
  Texts of the proofs, 14 of 52.
-/
import Derived.Test.YtmcaoimgmgjjiaaWM
import Derived.Test.YtmcaoimgmgjjiaaWA
import Derived.Test.YtmcaoimgmgjjiaaWB
import Derived.Deep.RegionLaw
namespace Go.Proofs.Ytmcaoimgmgjjiaa
open Go.RowKit

theorem u64_nat {n : Nat} (h : n < 18446744073709551616) : u64 n = n := by
  unfold u64
  simp [IntKind.wrap, IntKind.bits, IntKind.signed]
  omega
theorem enc1_byte (b : UInt8) : enc (u64 (b.toNat : Int)) 1 = [b] := by
  have := b.toNat_lt
  rw [u64_nat (by omega)]
  simp [enc, byteAt]
theorem index_byte (bs : List UInt8) (hl : bs.length = 32) (k : Nat) (hk : k < bs.length) (w0 : World) : (Instr.index 78 (.agg (cells bs).toArray) (.int .i64 (k : Int))).run Try.prog w0 = .ok (.int .u8 (bs[k]).toNat) w0 := by
  have hz : ∀ w, (sizeOf 5).run Try.prog w = .ok 1 w := fun w => by have := size_u8 w; rwa [Try.elemBytes] at this
  have hc : (cells bs).toArray[k]? = some (.int .u8 (bs[k]).toNat) := by simpa using cells_getElem bs k hk
  have h0 : (0 : Int) ≤ (k : Int) ∧ (k : Int) < ((32 : Nat) : Int) := by omega
  simp only [Instr.index, asIntOf, Sem.run_bind, Sem.run_pure, Result.andThen_ok, run_underlying Try.underlying78, if_pos h0, hz, part, isAgg, run_underlying Try.underlying5]
  simp [hc]
theorem u8_wrap (b : UInt8) : IntKind.i64.wrap (b.toNat : Int) = (b.toNat : Int) := by
  have := b.toNat_lt
  simp [IntKind.wrap, IntKind.bits, IntKind.signed]; omega

def EEnc (xs : List Li) (w : World) (e : Ending) (w' : World) : Prop := ∃ D, e = .returned (.slice (some ⟨D, 0, none⟩) (encL xs).length (encL xs).length) ∧ w'.heap[D]? = some (.cells (cells (encL xs)).toArray 5 (0, 0)) ∧ Kept (fun _ => True) w w' ∧ w.heap.size ≤ D

set_option maxRecDepth 100000 in
set_option maxHeartbeats 2000000 in
theorem encode_any {w : World} {ao : Option Addr} {cap : Nat} {xs : List Li} (h : Lv w ao xs) (hn : xs.length ≤ 100000) (hw : wgt xs ≤ 100000000000000) :
    Calls Try.prog 75 #[.slice ao xs.length cap] w fun e w' => EEnc xs w e w' := by
  have HV : Hid (Lv w ao xs) := h
  have HW : Hid (wgt xs ≤ 100000000000000) := hw
  clear h hw
  go_enter Try.func75, Try.ntmps75
  go_wp2_with (first
    | (go_at_call 51; (with_reducible refine Calls.mono newWriter_any ?_); rintro e w1 ⟨rfl, hwr, k1, z1⟩)
    | (go_at_call 81; (with_reducible refine Calls.mono (wfour_any (xs.length : Int) hwr (by simp)) ?_); rintro e w2 ⟨rfl, G', v', hwr2, k2, g2⟩))
  rw [u64_nat (by omega), List.nil_append] at hwr2
  have K2 : Hid (Kept (fun _ => True) w w2) := k1.then k2 (fun i hi _ => ⟨by omega, by simp⟩)
  have GL : Hid (∀ x, G' = some x → w.heap.size ≤ x) := fun x hx => by
    rcases g2 x hx with h | h
    · simp at h
    · omega
  have H2 : Hid (Wr w2 w.heap.size G' v' (enc (xs.length : Nat) 4)) := hwr2
  clear hwr hwr2 k1 k2 g2 z1
  obtain ⟨B, hB⟩ : ∃ B, B = w.heap.size := ⟨_, rfl⟩
  rw [← hB] at H2 GL ⊢
  have HB : Hid (B = w.heap.size) := hB
  clear hB
  go_loopw [15] (fun t wr => ∃ (k : Nat) (G : Option Nat) (v : Value), k ≤ xs.length ∧ t = .int .i64 k ∧ Wr wr B G v (enc (xs.length : Nat) 4 ++ encB (xs.take k)) ∧ (∀ x, G = some x → B ≤ x) ∧ Kept (fun _ => True) w wr) (fun t _ => xs.length - (intOf t).toNat)
  case atStart => exact ⟨0, G', v', Nat.zero_le _, rfl, by simpa [encB] using H2.out, GL.out, K2.out⟩
  case round =>
    obtain ⟨k, G, v, hk, rfl, hwr, gl, kr⟩ := hrel
    have lcur : (enc (xs.length : Nat) 4 ++ encB (xs.take k)).length ≤ 100000000000004 := by
      rw [List.length_append, enc_length, encB_len]
      have := wgt_take_le xs k
      have := HW.out
      omega
    by_cases hlt : k < xs.length
    · obtain ⟨b, off, rfl, hb, hc⟩ := HV.out.row (by omega)
      have hr := range_kept (hc k hlt) kr hb trivial
      have i0 : (0 : Int) ≤ (k : Int) := by omega
      have i1 : (k : Int) < (xs.length : Int) := by omega
      have hS : encB (xs.take (k + 1)) = encB (xs.take k) ++ encI xs[k] := encB_take_succ xs k hlt
      have hS2 : (enc (xs.length : Nat) 4 ++ encB (xs.take (k + 1))).length ≤ 100000000000004 := by
        rw [List.length_append, enc_length, encB_len]
        have := wgt_take_le xs (k + 1)
        have := HW.out
        omega
      rw [hS, ← List.append_assoc, List.length_append, encI_len] at hS2
      have HS : Hid (enc (xs.length : Nat) 4 ++ encB (xs.take (k + 1)) = enc (xs.length : Nat) 4 ++ encB (xs.take k) ++ encI xs[k]) := by
        show _ = _
        rw [hS, List.append_assoc]
      have HR : Hid (wr.rangeAt b (off + k * 33) (lcell xs[k])) := hr
      have HWr : Hid (Wr wr B G v (enc (xs.length : Nat) 4 ++ encB (xs.take k))) := hwr
      have HGL : Hid (∀ x, G = some x → B ≤ x) := gl
      clear hc hr hS hwr gl
      generalize enc (xs.length : Nat) 4 ++ encB (xs.take k) = cur at *
      generalize hnx : enc (xs.length : Nat) 4 ++ encB (xs.take (k + 1)) = nxt' at *
      have HNX : Hid (enc (xs.length : Nat) 4 ++ encB (xs.take (k + 1)) = nxt') := hnx
      clear hnx
      generalize xs[k] = x at *
      have lx := x.len
      have lx2 : (cells x.h).length = 32 := by rw [cells_length, lx]
      have hz := HWr.out.lt
      have ltx : (x.t).length ≤ 100000000000004 := by omega
      have lcx : cur.length + x.t.length + 36 ≤ 100000000000004 := by omega
      have CT := fun (w0 : World) (hw : Wr w0 B G v cur) => wtext_any ⟨x.t.toArray⟩ hw (by simp [ByteArray.size]; omega)
      clear hS2
      go_wp2_with (first
        | ((with_reducible apply w_loadL (d := some 18) linkP (b := b) (o := off + k * 33) (x := x)); (case hx => rfl); (case hr => exact HR.out))
        | ((with_reducible refine w_allocL (d := some 5) linkP ?_); intro w3 a5 k3 s3; have cc0 := s3.out)
        | ((with_reducible apply w_storeL (x := .tmp 5) linkP (b := wr.heap.size) (z := x) (old := zeroLi)); (case hx => rfl); (case hy => rfl); (case ha => exact a5); intro w4 a5' k4 s4; have ct := a5'.text; have hWw : Hid (Wr w4 B G v cur) := (HWr.out.kept k3 trivial (fun _ _ => trivial)).kept k4 (by omega) (fun i hi => by have := HWr.out.rowlt i hi; omega))
        | (go_at_call 53; (with_reducible refine Calls.mono (CT _ hWw.out) ?_); rintro e w5 ⟨rfl, G2, v2, hw5, k5, g5⟩)
        | ((with_reducible apply w_loadH (d := some 24) (b := wr.heap.size) (o := 1) (cs := cells x.h)); (case hx => rfl); (case hr => exact (a5'.kept k5 ⟨by omega, fun e => by have := HWr.out.rowlt _ e; omega⟩).head); (case hl => exact lx2)))
      have es : ((⟨x.t.toArray⟩ : ByteArray).size : Int) = ((x.t.length : Nat) : Int) := by simp [ByteArray.size]
      rw [es, u64_nat (by omega)] at hw5
      have HW5 : Hid (Wr w5 B G2 v2 (cur ++ enc (x.t.length : Nat) 4 ++ x.t)) := hw5
      have hz4 := k4.size
      have hz3 := kr.size
      have hz5 : wr.heap.size ≤ w4.heap.size := by omega
      have KA : Hid (Kept (fun _ => True) w w5) := by
        have hb2 := HB.out
        exact ((kr.trans k3).then k4 (fun i hi _ => by omega)).then k5 (fun i hi _ => ⟨by omega, fun e => by have := HGL.out i e; omega⟩)
      have HG2 : Hid (∀ y, G2 = some y → B ≤ y) := fun y hy => by
        rcases g5 y hy with h | h
        · exact HGL.out y h
        · omega
      clear hw5 es CT HR HWr hWw k5 g5 ct a5' k4 s4 k3 s3 a5 cc0 hz4 hz3 HGL hb
      generalize wr.heap.size = P at *
      clear hz5
      have HX : Hid (enc (x.t.length : Nat) 4 ++ x.t ++ x.h = encI x) := rfl
      have lb : (cur ++ enc (x.t.length : Nat) 4 ++ x.t).length = cur.length + 4 + x.t.length := by simp only [List.length_append, enc_length]
      have HC : Hid (nxt' = (cur ++ enc (x.t.length : Nat) 4 ++ x.t) ++ x.h) := by
        show _ = _
        rw [HS.out, ← HX.out]
        simp only [List.append_assoc]
      generalize cur ++ enc (x.t.length : Nat) 4 ++ x.t = base at *
      have HKR : Hid (Kept (fun _ => True) w wr) := kr
      clear kr HX HS
      go_loopw [25] (fun t wr => ∃ (j : Nat) (G3 : Option Nat) (v3 : Value), j ≤ 32 ∧ t = .int .i64 j ∧ Wr wr B G3 v3 (base ++ x.h.take j) ∧ (∀ y, G3 = some y → B ≤ y) ∧ Kept (fun _ => True) w wr) (fun t _ => 32 - (intOf t).toNat)
      case atStart => exact ⟨0, G2, v2, by omega, rfl, by simpa using HW5.out, HG2.out, KA.out⟩
      case round =>
        obtain ⟨j, G3, v3, hj, rfl, hw6, g3, k6⟩ := hrel
        by_cases hj2 : j < 32
        · have j0 : (0 : Int) ≤ (j : Int) := by omega
          have j1 : (j : Int) < 32 := by omega
          have hix := index_byte x.h lx j (by omega)
          have HT : Hid (base ++ x.h.take (j + 1) = base ++ x.h.take j ++ [x.h[j]'(by omega)]) := by
            show _ = _
            rw [List.take_succ_eq_append_getElem (by omega), List.append_assoc]
          have lT : ((base ++ x.h.take j).length : Int) + 1 ≤ 140737488355328 := by
            rw [List.length_append, lb, List.length_take]
            omega
          have cb := wbyte_any ((x.h[j]'(by omega)).toNat : Int) hw6 lT
          rw [enc1_byte] at cb
          have hwrap := u8_wrap (x.h[j]'(by omega))
          have K6 : Hid (Kept (fun _ => True) w wr) := k6
          have G6 : Hid (∀ y, G3 = some y → B ≤ y) := g3
          have hz6 := hw6.lt
          clear hw6 k6 g3
          generalize x.h[j]'(by omega) = by' at *
          go_wp2_with (go_at_call 52; (with_reducible refine Calls.mono cb ?_); rintro e w7 ⟨rfl, G7, v7, h7, k7, g7⟩)
          go_roundw
          case rel =>
            refine ⟨j + 1, G7, v7, by omega, by go_num, by rw [HT.out]; exact h7, fun y hy => ?_, ?_⟩
            · rcases g7 y hy with h | h
              · exact G6.out y h
              · omega
            · have hb2 := HB.out
              exact K6.out.then k7 (fun i hi _ => ⟨by omega, fun e => by have := G6.out i e; omega⟩)
          case measure => simp [intOf]; omega
        · have hj3 : j = 32 := by omega
          subst hj3
          rw [List.take_of_length_le (by omega), ← HC.out] at hw6
          go_wp2
          go_roundw
          case rel => exact ⟨k + 1, G3, v3, by omega, by go_num, by rw [HNX.out]; exact hw6, g3, k6⟩
          case measure => simp [intOf]; omega
    · have i1 : ¬ (k : Int) < (xs.length : Int) := by omega
      have hke : k = xs.length := by omega
      subst hke
      rw [List.take_length] at hwr lcur
      have HX : Hid (enc (xs.length : Nat) 4 ++ encB xs = encL xs) := rfl
      have cd := done_any hwr (by omega)
      clear hwr
      rw [HX.out] at cd
      go_wp2_with (go_at_call 54; (with_reducible refine Calls.mono cd ?_); rintro e w5 ⟨D, rfl, h5, k5, d5⟩)
      go_ret
      exact ⟨D, rfl, h5, kr.trans k5, Nat.le_trans kr.size d5⟩

end Go.Proofs.Ytmcaoimgmgjjiaa

namespace Go.Proofs.Ytmcaoimgmgjjiaa
open Go.RowKit

def srow (ss : List (List UInt8)) : List Value := ss.map fun s => .string ⟨s.toArray⟩
theorem srow_length (ss : List (List UInt8)) : (srow ss).length = ss.length := by simp [srow]
theorem srow_append (a b : List (List UInt8)) : srow (a ++ b) = srow a ++ srow b := by simp [srow]
theorem srow_get (ss : List (List UInt8)) (k : Nat) (h : k < ss.length) : (srow ss)[k]? = some (.string ⟨(ss[k]).toArray⟩) := by simp [srow, h]
theorem srow_one (ss : List (List UInt8)) : ∀ u ∈ srow ss, u.oneCell' = true := by
  intro u hu
  obtain ⟨_, _, rfl⟩ := List.mem_map.1 hu
  rfl

theorem Try.infoText : (Try.prog.info? 9).map (fun i => (i.zero, i.size, i.bytes)) = some (some (.string ⟨#[]⟩), 1, 16) := by kernel_rfl
def Txs (w : World) (base : Nat) (v : Value) (ss : List (List UInt8)) : Prop := w.ownsRow base 9 1 v ss.length (srow ss)
theorem Txs.nil (w : World) (base : Nat) : Txs w base (.slice none 0 0) [] := World.ownsRow_nil _ _ _ _
theorem Txs.kept {p : Nat → Prop} {w w' : World} {base : Nat} {v : Value} {ss : List (List UInt8)} (h : Txs w base v ss) (hk : Kept p w w') (hp : ∀ k, v.ownBlock = some k → p k) : Txs w' base v ss := by
  refine ⟨h.1, ?_⟩
  rcases h.2 with h0 | ⟨g, cap, cur, rfl, hb, hh, rest⟩
  · exact .inl h0
  · exact .inr ⟨g, cap, cur, rfl, hb, (hk.block g (lt_of_block hh) (hp g rfl)).trans hh, rest⟩
theorem Txs.shape {w : World} {base : Nat} {v : Value} {ss : List (List UInt8)} (h : Txs w base v ss) : ∃ ao cap, v = .slice ao ss.length cap ∧ ss.length ≤ cap ∧ (0 < ss.length → ∃ g, ao = some ⟨g, 0, none⟩) := by
  rcases h.2 with ⟨hv, h0⟩ | ⟨g, cap, cur, hv, _, hh, hc, _⟩
  · exact ⟨none, 0, by rw [hv, h0], by omega, fun hp => by omega⟩
  · exact ⟨_, cap, hv, hc, fun _ => ⟨g, rfl⟩⟩
theorem Txs.cell {w : World} {base g n cap : Nat} {ss : List (List UInt8)} (h : Txs w base (.slice (some ⟨g, 0, none⟩) n cap) ss) (k : Nat) (hk : k < ss.length) : w.cell? ⟨g, k, none⟩ = some (.string ⟨(ss[k]).toArray⟩) := by
  obtain ⟨ao, cap', e, _, _⟩ := h.shape
  injection e with e1 e2 e3
  subst e2
  have h' : w.ownsRow base 9 1 (.slice (some ⟨g, 0, none⟩) ss.length cap) ss.length (srow ss) := h
  exact (h'.cellAt k (by omega)).trans (srow_get ss k hk)

theorem own_shape_any {w : World} {b e sz n : Nat} {v : Value} {xs : List Value} (h : w.ownsRow b e sz v n xs) : ∃ ao cap, v = .slice ao n cap := by
  rcases h.2 with ⟨e, rfl⟩ | ⟨g, cap, _, e, _⟩
  · exact ⟨_, _, e⟩
  · exact ⟨_, _, e⟩

theorem append_text (w : World) (ty : TypeId) (base : Nat) (v : Value) (ss : List (List UInt8)) (h : Txs w base v ss) (hb : base ≤ w.heap.size) (G : Nat) (s : List UInt8) (fr : Nat × Nat) (hG : w.heap[G]? = some (.cells #[.string ⟨s.toArray⟩] 9 fr)) (hm : ss.length ≤ 1099511627776) :
    ∃ ao' cap' w', (Builtin.append_ #[60, 60] ty #[v, .slice (some ⟨G, 0, none⟩) 1 1]).run Try.prog w = .ok (.slice ao' (ss.length + 1) cap') w' ∧ Txs w' base (.slice ao' (ss.length + 1) cap') (ss ++ [s]) ∧ w.grownBy w' v.ownBlock ∧
      ((Value.slice ao' (ss.length + 1) cap').ownBlock = v.ownBlock ∨ (Value.slice ao' (ss.length + 1) cap').ownBlock = some w.heap.size) := by
  obtain ⟨i, hi, hz0, hz1, hz2⟩ := info_parts Try.infoText
  obtain ⟨v', w', hr, h2, h3, _, h5⟩ := run_append_own_at (P := Try.prog) w base 60 ty 9 i (.string ⟨#[]⟩) 1 16 Try.underlying60 hi hz0 hz1 hz2 rfl (by decide) v ss.length (srow ss) h ⟨G, 0, none⟩ 1 1 (srow [s]) (by simp [srow]) (World.news_of_block (w := w) hG) (srow_one [s]) (by unfold maxLen; omega) (by omega) hb
  obtain ⟨ao', cap', rfl⟩ := own_shape_any h2
  refine ⟨ao', cap', w', hr, ?_, h3, h5⟩
  unfold Txs
  rw [srow_append, List.length_append]
  exact h2

theorem wpList_append_text {w : World} {ops : Array Oper} {rest : List Oper} {o : Oper} {a : Act} {Q : Exit → Act → World → Prop} (hgd : o.guard = none) (sl y : Operand) (ho : o.op = .call { callee := .builtin .append, args := #[sl, y], argTypes := #[60, 60] })
    (base : Nat) (v : Value) (ss : List (List UInt8)) (hs : a.eval sl = v) (h : Txs w base v ss) (hb : base ≤ w.heap.size) (G : Nat) (hy : a.eval y = .slice (some ⟨G, 0, none⟩) 1 1) (s : List UInt8) (fr : Nat × Nat) (hG : w.heap[G]? = some (.cells #[.string ⟨s.toArray⟩] 9 fr)) (hm : ss.length ≤ 1099511627776)
    (hK : ∀ ao' cap' w', Txs w' base (.slice ao' (ss.length + 1) cap') (ss ++ [s]) → w.grownBy w' v.ownBlock → ((Value.slice ao' (ss.length + 1) cap').ownBlock = v.ownBlock ∨ (Value.slice ao' (ss.length + 1) cap').ownBlock = some w.heap.size) → wpList Try.prog ops Q rest (a.put o.dst (.slice ao' (ss.length + 1) cap')) w') : wpList Try.prog ops Q (o :: rest) a w := by
  refine wpList_plain hgd fun K hK' => ?_
  obtain ⟨ao', cap', w', hr, h2, h3, h4⟩ := append_text w o.type base v ss h hb G s fr hG hm
  unfold Oper.wp execOp
  simp only [ho, resolve, invoke, builtin, Sem.run_bind, Sem.run_pure, Result.andThen_ok, List.map_toArray, List.map_cons, List.map_nil, hs, hy, hr]
  exact hK' _ _ (hK ao' cap' w' h2 h3 h4)

end Go.Proofs.Ytmcaoimgmgjjiaa

namespace Go.Proofs.Ytmcaoimgmgjjiaa
open Go.RowKit

theorem append_cells {T e sz by' : Nat} {z : Value} (hT : Try.prog.underlying T = some (.slice e)) (hI : (Try.prog.info? e).map (fun i => (i.zero, i.size, i.bytes)) = some (some z, sz, by')) (hz : z.cells.size = sz) (hsz : 0 < sz) (hby : by' ≤ 64)
    (w : World) (ty : TypeId) (base : Nat) (v : Value) (n : Nat) (xs : List Value) (hown : w.ownsRow base e sz v n xs) (hb : base ≤ w.heap.size) (G : Nat) (news : List Value) (hnl : news.length = sz) (hone : ∀ u ∈ news, u.oneCell' = true) (fr : Nat × Nat) (hG : w.heap[G]? = some (.cells news.toArray e fr)) (hm : n ≤ 10000) :
    ∃ ao' cap' w', (Builtin.append_ #[T, T] ty #[v, .slice (some ⟨G, 0, none⟩) 1 1]).run Try.prog w = .ok (.slice ao' (n + 1) cap') w' ∧ w'.ownsRow base e sz (.slice ao' (n + 1) cap') (n + 1) (xs ++ news) ∧ w.grownBy w' v.ownBlock ∧
      ((Value.slice ao' (n + 1) cap').ownBlock = v.ownBlock ∨ (Value.slice ao' (n + 1) cap').ownBlock = some w.heap.size) := by
  obtain ⟨i, hi, hz0, hz1, hz2⟩ := info_parts hI
  obtain ⟨v', w', hr, h2, h3, _, h5⟩ := run_append_own_at (P := Try.prog) w base T ty e i z sz by' hT hi hz0 hz1 hz2 hz hsz v n xs hown ⟨G, 0, none⟩ 1 1 news (by omega) (World.news_of_block (w := w) hG) hone (by unfold maxLen; omega) (Nat.le_trans (Nat.mul_le_mul (by omega : n + 1 ≤ 10001) hby) (by decide)) hb
  obtain ⟨ao', cap', rfl⟩ := own_shape_any h2
  exact ⟨ao', cap', w', hr, h2, h3, h5⟩
theorem wpList_append_cells {T e sz by' : Nat} {z : Value} {w : World} {ops : Array Oper} {rest : List Oper} {o : Oper} {a : Act} {Q : Exit → Act → World → Prop} (hT : Try.prog.underlying T = some (.slice e)) (hI : (Try.prog.info? e).map (fun i => (i.zero, i.size, i.bytes)) = some (some z, sz, by')) (hz : z.cells.size = sz) (hsz : 0 < sz) (hby : by' ≤ 64)
    (hgd : o.guard = none) (sl y : Operand) (ho : o.op = .call { callee := .builtin .append, args := #[sl, y], argTypes := #[T, T] })
    (base : Nat) (v : Value) (n : Nat) (xs : List Value) (hs : a.eval sl = v) (hown : w.ownsRow base e sz v n xs) (hb : base ≤ w.heap.size) (G : Nat) (hy : a.eval y = .slice (some ⟨G, 0, none⟩) 1 1) (news : List Value) (hnl : news.length = sz) (hone : ∀ u ∈ news, u.oneCell' = true) (fr : Nat × Nat) (hG : w.heap[G]? = some (.cells news.toArray e fr)) (hm : n ≤ 10000)
    (h : ∀ ao' cap' w', w'.ownsRow base e sz (.slice ao' (n + 1) cap') (n + 1) (xs ++ news) → w.grownBy w' v.ownBlock → ((Value.slice ao' (n + 1) cap').ownBlock = v.ownBlock ∨ (Value.slice ao' (n + 1) cap').ownBlock = some w.heap.size) → wpList Try.prog ops Q rest (a.put o.dst (.slice ao' (n + 1) cap')) w') : wpList Try.prog ops Q (o :: rest) a w := by
  refine wpList_plain hgd fun K hK => ?_
  obtain ⟨ao', cap', w', hr, h2, h3, h4⟩ := append_cells hT hI hz hsz hby w o.type base v n xs hown hb G news hnl hone fr hG hm
  unfold Oper.wp execOp
  simp only [ho, resolve, invoke, builtin, Sem.run_bind, Sem.run_pure, Result.andThen_ok, List.map_toArray, List.map_cons, List.map_nil, hs, hy, hr]
  exact hK _ _ (h ao' cap' w' h2 h3 h4)
end Go.Proofs.Ytmcaoimgmgjjiaa

namespace Go.Proofs.Ytmcaoimgmgjjiaa
open Go.RowKit

def rdB (bs : List UInt8) (s : RS) : Nat → List UInt8 × RS
  | 0 => ([], s)
  | n + 1 => ((rdB bs s n).1 ++ [UInt8.ofNat ((rdB bs s n).2.num bs 1).1], ((rdB bs s n).2.num bs 1).2)
theorem rdB_len (bs : List UInt8) (s : RS) (n : Nat) : (rdB bs s n).1.length = n := by
  induction n with
  | zero => rfl
  | succ n ih => rw [rdB, List.length_append, ih]; rfl
theorem num1_yes (bs : List UInt8) (p : Nat) (h : p < bs.length) : (⟨p, 0⟩ : RS).num bs 1 = ((bs[p]).toNat, ⟨p + 1, 0⟩) := by
  unfold RS.num
  rw [if_pos rfl, if_pos (by simp only; omega)]
  have e : (bs.drop p).take 1 = [bs[p]] := by
    rw [List.drop_eq_getElem_cons h]
    rfl
  simp [e, be]
theorem rdB_no (bs : List UInt8) (s : RS) (h : s.why ≠ 0) (n : Nat) : (rdB bs s n).2 = s := by
  induction n with
  | zero => rfl
  | succ n ih =>
    rw [rdB, ih]
    simp only [RS.num, if_neg h]
theorem rdB_yes (bs : List UInt8) (p n : Nat) (h : p + n ≤ bs.length) : rdB bs ⟨p, 0⟩ n = ((bs.drop p).take n, ⟨p + n, 0⟩) := by
  induction n with
  | zero => simp [rdB]
  | succ n ih =>
    rw [rdB, ih (by omega)]
    simp only
    rw [num1_yes bs (p + n) (by omega)]
    simp only
    rw [take_drop_snoc bs p n (by omega)]
    congr 2
    simp
theorem rdB_short (bs : List UInt8) (p : Nat) (hp : p ≤ bs.length) : ∀ n, bs.length < p + n → (rdB bs ⟨p, 0⟩ n).2 = ⟨bs.length, 10⟩
  | 0, h => by omega
  | n + 1, h => by
    by_cases h2 : bs.length < p + n
    · rw [rdB, rdB_short bs p hp n h2]
      simp [RS.num]
    · rw [rdB, rdB_yes bs p n (by omega)]
      simp only [RS.num]
      rw [if_pos trivial, if_neg (by omega)]
theorem rdB_raw (bs : List UInt8) (s : RS) (hp : s.pos ≤ bs.length) (n : Nat) : (rdB bs s n).2 = (s.raw bs n).2 ∧ ((s.raw bs n).2.why = 0 → (rdB bs s n).1 = (s.raw bs n).1) := by
  obtain ⟨p, y⟩ := s
  simp only at hp
  unfold RS.raw
  by_cases hy : y = 0
  · subst hy
    by_cases hl : p + n ≤ bs.length
    · rw [if_pos rfl, if_pos (by simpa using hl), rdB_yes bs p n hl]
      exact ⟨rfl, fun _ => rfl⟩
    · rw [if_pos rfl, if_neg (by simpa using hl), rdB_short bs p hp n (by omega)]
      exact ⟨rfl, fun h => by simp at h⟩
  · rw [if_neg (by simpa using hy), rdB_no bs ⟨p, y⟩ (by simpa using hy) n]
    exact ⟨rfl, fun h => absurd h (by simpa using hy)⟩

theorem conv_byte (n : Nat) (_ : n < 256) : IntKind.u8.wrap (n : Int) = ((UInt8.ofNat n).toNat : Int) := by
  simp [IntKind.wrap, IntKind.bits, IntKind.signed, UInt8.toNat_ofNat']

def EHead (bs : List UInt8) (s : RS) (w : World) (B R cap : Nat) (e : Ending) (w' : World) : Prop := e = .returned (.agg (cells (rdB bs s 32).1).toArray) ∧ Rs w' B R bs cap (rdB bs s 32).2 ∧ Kept (· ≠ B) w w'

set_option maxRecDepth 100000 in
set_option maxHeartbeats 2000000 in
theorem readHead_any {w : World} {B R cap : Nat} {bs : List UInt8} {s : RS} (h : Rs w B R bs cap s) :
    Calls Try.prog 72 #[.pointer (some ⟨B, 0, none⟩)] w fun e w' => EHead bs s w B R cap e w' := by
  have HR : Hid (Rs w B R bs cap s) := h
  have hBw := h.lt
  have hRw := h.rowlt
  clear h
  go_enter Try.func72, Try.ntmps72
  go_wp2_with (first
    | ((with_reducible refine w_alloc (d := some 2) arr32 ?_); intro w1 a2 k1 s1)
    | ((with_reducible refine w_alloc (d := some 3) arr32 ?_); intro w2 a3 k2 s2))
  have q1 := s1.out
  have A2 : Hid (Ar w2 w.heap.size 78 (cells zero32)) := a2.kept k2 trivial
  have A3 : Hid (Ar w2 w1.heap.size 78 (cells zero32)) := a3
  have HR2 : Hid (Rs w2 B R bs cap s) := (HR.out.kept k1 trivial trivial).kept k2 trivial trivial
  have K02 : Hid (Kept (fun _ => True) w w2) := k1.trans k2
  have d1 : w.heap.size < w1.heap.size := by omega
  clear a2 a3 k1 k2 s1 s2
  generalize w1.heap.size = C at *
  clear q1
  obtain ⟨D, hD⟩ : ∃ D, D = w.heap.size := ⟨_, rfl⟩
  rw [← hD] at A2 d1 hBw hRw ⊢
  have HD : Hid (D = w.heap.size) := hD
  clear hD HR
  go_loopw [5] (fun t wr => ∃ k : Nat, k ≤ 32 ∧ t = .int .i64 k ∧ Ar wr C 78 (cells ((rdB bs s k).1 ++ List.replicate (32 - k) 0)) ∧ Ar wr D 78 (cells zero32) ∧ Rs wr B R bs cap (rdB bs s k).2 ∧ Kept (· ≠ B) w wr) (fun t _ => 32 - (intOf t).toNat)
  case atStart => exact ⟨0, by omega, rfl, A3.out, A2.out, HR2.out, K02.out.mono (fun _ _ _ => trivial)⟩
  case round =>
    obtain ⟨k, hk, rfl, a3, a2, hr, kr⟩ := hrel
    by_cases hlt : k < 32
    · have i0 : (0 : Int) ≤ (k : Int) := by omega
      have i1 : (k : Int) < 32 := by omega
      have cb := byte_any hr
      have hl1 := (rdB bs s k).2.num_lt1 bs
      have hw := conv_byte _ hl1
      have lk := rdB_len bs s k
      have HN : Hid (rdB bs s (k + 1) = ((rdB bs s k).1 ++ [UInt8.ofNat ((rdB bs s k).2.num bs 1).1], ((rdB bs s k).2.num bs 1).2)) := rfl
      have AC : Hid (Ar wr C 78 (cells ((rdB bs s k).1 ++ List.replicate (32 - k) 0))) := a3
      have AD : Hid (Ar wr D 78 (cells zero32)) := a2
      have KR : Hid (Kept (· ≠ B) w wr) := kr
      clear hr a3 a2 kr
      generalize hq : (rdB bs s k).2.num bs 1 = q at *
      generalize (rdB bs s k).1 = acc at *
      obtain ⟨n, s2⟩ := q
      simp only at cb hl1 hw HN
      clear hq
      generalize hb : UInt8.ofNat n = b at *
      have cz : ∀ w0, Kept (· ≠ B) wr w0 → w0.cell? ⟨C, k, none⟩ = some (.int .u8 0) ∧ w0.frozen? ⟨C, k, none⟩ = false := fun w0 k0 => by
        have h1 := AC.out.kept k0 (by omega)
        refine ⟨?_, h1.free k⟩
        rw [h1.cell k, cells_getElem _ k (by simp [lk]; omega), List.getElem_append_right (by omega)]
        simp
      clear hb
      go_wp2_with (go_at_call 42; (with_reducible refine Calls.mono cb ?_); rintro e w5 ⟨rfl, h5, k5⟩; obtain ⟨cz5, cf5⟩ := cz _ k5)
      go_roundw
      case rel =>
        refine ⟨k + 1, by omega, by go_num, ?_, ?_, ?_, ?_⟩
        · have h1 := (AC.out.kept k5 (by omega)).set k (.int .u8 b.toNat)
          rw [cells_set, List.set_append_right _ _ (by omega), lk, Nat.sub_self, show 32 - k = (32 - (k + 1)) + 1 by omega, List.replicate_succ, List.set_cons_zero] at h1
          rw [HN.out]
          simpa using h1
        · exact (AD.out.kept k5 (by omega)).kept ((Kept.refl (· ≠ C) _).setCell (by simp) _) (by omega)
        · rw [HN.out]
          exact h5.kept ((Kept.refl (· ≠ C) _).setCell (by simp) _) (by omega) (by omega)
        · have hd := HD.out
          exact (KR.out.trans k5).then ((Kept.refl (· ≠ C) _).setCell (by simp) _) (fun i hi _ => by omega)
      case measure => simp [intOf]; omega
    · have hke : k = 32 := by omega
      subst hke
      have i1 : ¬ ((32 : Nat) : Int) < 32 := by omega
      have l32 : (cells (rdB bs s 32).1).length = 32 := by rw [cells_length, rdB_len]
      rw [Nat.sub_self, List.replicate_zero, List.append_nil] at a3
      obtain ⟨q, hq⟩ : ∃ q, rdB bs s 32 = q := ⟨_, rfl⟩
      rw [hq] at a3 hr l32
      have HQ : Hid (rdB bs s 32 = q) := hq
      clear hq
      obtain ⟨acc, st⟩ := q
      simp only at a3 hr l32
      have o32 := cells_one acc
      go_wp2_with (first
        | ((with_reducible apply w_loadH (d := some 14) (b := C) (o := 0) (cs := cells acc)); (case hx => rfl); (case hr => exact a3.range); (case hl => exact l32))
        | ((with_reducible apply w_store (x := .tmp 2) (b := D) (xs := cells acc) (old := cells zero32) arr32); (case hx => rfl); (case hy => rfl); (case ha => exact a2); (case ho => rfl); (case hl => exact l32); (case h1 => exact o32); intro w6 a6 k6 s6))
      refine bodyPost_ret (results_ar (p := 2) arr32 rfl _ _ rfl a6 l32) rfl ?_
      unfold EHead
      rw [HQ.out]
      refine ⟨rfl, hr.kept k6 (by omega) (by omega), ?_⟩
      have hd := HD.out
      exact kr.then k6 (fun i hi _ => by omega)

end Go.Proofs.Ytmcaoimgmgjjiaa
