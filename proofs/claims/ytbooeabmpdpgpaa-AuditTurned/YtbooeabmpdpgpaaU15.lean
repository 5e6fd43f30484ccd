/-
  The document's Text of a record; claims that a law makes.
-/
import Derived.Test.YtbooeabmpdpgpaaU14
import Derived.Test.YtbooeabmpdpgpaaUMapI
import Derived.Test.YtbooeabmpdpgpaaXRef1
import Derived.Test.YtbooeabmpdpgpaaZR1
import Derived.Test.YtbooeabmpdpgpaaZR5
import Derived.Test.YtbooeabmpdpgpaaVOrd
namespace Go.Proofs.Ytbooeabmpdpgpaa
open Go.RowKit

set_option maxHeartbeats 400000 in
theorem rbyte_any {w : World} {v : Value} {bs : List UInt8} (n : Int) (h : Sl w v bs) (hb : bs.length + 1 ≤ 140737488355328) :
    Calls Try.prog 49 #[v, .int .i64 n] w fun e w' => ∃ r, e = .returned r ∧ w'.ownsRow w.heap.size 5 1 r (bs ++ enc (u64 n) 1).length (cells (bs ++ enc (u64 n) 1)) ∧ Kept (fun _ => True) w w' := by
  obtain ⟨ao, cap, rfl, hn, hh⟩ := h
  have HN : Hid (ao = none → cap = 0) := hn
  have HH : Hid (Has w ao bs) := hh
  have HW0 := byte0 n
  clear hn hh
  go_enter Try.func49, Try.ntmps49
  go_wp2_with (first
    | (at_builtin; refine wpList_append_has rfl (.tmp 5) (.tmp 6) rfl w.heap.size (.slice (some ⟨w.heap.size, 0, none⟩) 0 0) 0 [] rfl (own_new w _ (Nat.le_refl _)) (by simp) ao bs.length cap rfl bs rfl HN.out (HH.out.kept ((Kept.refl (fun _ => True) w).alloc _) (fun _ _ => trivial)) (by omega) ?_; intro a1 c1 w1 ho1 hg1 hl1; simp only [List.nil_append, Nat.zero_add] at ho1 hl1 ⊢)
    | (at_builtin; refine wpList_append_has rfl (.tmp 7) (.tmp 10) rfl w.heap.size (.slice a1 bs.length c1) bs.length (cells bs) rfl (ho1.alloc _) (by have := hg1.size; simp at this ⊢; omega) _ 1 1 rfl [byteAt (u64 n) 0] rfl (by simp) (has_row (heap_alloc_new w1 _)) (by omega) ?_; intro a2 c2 w2 ho2 hg2 hl2))
  go_ret
  refine ⟨_, rfl, ?_, ?_⟩
  · rw [cells_append]
    simpa [enc, List.length_append] using ho2
  · exact fresh_two hg1 hg2 hl1

theorem sl_nil (w : World) : Sl w (.slice none 0 0) [] := by
  unfold Sl
  exact ⟨none, 0, rfl, fun _ => rfl, fun h => by simp at h⟩
theorem rb_any {w : World} {v : Value} {bs : List UInt8} (n : Int) (h : Sl w v bs) (hb : bs.length + 1 ≤ 140737488355328) :
    Calls Try.prog 49 #[v, .int .i64 n] w fun e w' => ∃ r, e = .returned r ∧ Sl w' r (bs ++ enc (u64 n) 1) ∧ Kept (fun _ => True) w w' :=
  (rbyte_any n h hb).mono fun _ _ ⟨r, he, ho, hk⟩ => ⟨r, he, own_sl ho, hk⟩
theorem rt_any {w : World} {v : Value} {bs : List UInt8} (s : List UInt8) (h : Sl w v bs) (hb : bs.length + 4 + s.length ≤ 140737488355328) :
    Calls Try.prog 50 #[v, .string ⟨s.toArray⟩] w fun e w' => ∃ r, e = .returned r ∧ Sl w' r (bs ++ enc (u64 s.length) 4 ++ s) ∧ Kept (fun _ => True) w w' := by
  have hs : (⟨s.toArray⟩ : ByteArray).size = s.length := by simp [ByteArray.size]
  have := rtext_any ⟨s.toArray⟩ h (by rw [hs]; exact hb)
  rw [hs] at this
  refine this.mono fun e w' ⟨r, he, ho, hk⟩ => ⟨r, he, ?_, hk⟩
  have := own_sl ho
  simpa using this
theorem sl_all {w w' : World} {v : Value} {bs : List UInt8} (h : Sl w v bs) (k : Kept (fun _ => True) w w') : Sl w' v bs := by
  obtain ⟨ao, cap, rfl, hn, hh⟩ := h
  exact ⟨ao, cap, rfl, hn, hh.kept k (fun _ _ => trivial)⟩

set_option maxRecDepth 100000 in
set_option maxHeartbeats 4000000 in
theorem rtextR_any {w : World} {r : Ui} {ao : Option Addr} {cap : Nat} (h : Gi w ao r.gs) (hn : r.gs.length ≤ 1000000) (h1 : r.tx.length ≤ 70368744177664) (h2 : r.bd.length ≤ 35184372088832) :
    Calls Try.prog 19 #[r.val ao cap] w fun e w' => e = .returned (.string ⟨(encU r).toArray⟩) ∧ Kept (fun _ => True) w w' := by
  have HR : Hid (encU r = enc (u64 r.k) 1 ++ enc (u64 r.tx.length) 4 ++ r.tx ++ enc (u64 r.gs.length) 1 ++ encGi r.gs ++ enc (u64 r.bd.length) 4 ++ r.bd) := rfl
  generalize encU r = R at *
  obtain ⟨k, tx, gs, bd⟩ := r
  unfold Ui.val
  simp only at *
  obtain ⟨w1, hw1⟩ : ∃ x, x = w.alloc (.cells #[.int .i64 k, .string ⟨tx.toArray⟩, .slice ao gs.length cap, .string ⟨bd.toArray⟩] 48) := ⟨_, rfl⟩
  have k0 : Kept (fun _ => True) w w1 := by rw [hw1]; exact (Kept.refl _ _).alloc _
  have F0 : w1.heap[w.heap.size]? = some (.cells #[.int .i64 k, .string ⟨tx.toArray⟩, .slice ao gs.length cap, .string ⟨bd.toArray⟩] 48 (0, 0)) := by rw [hw1]; exact heap_alloc_new w _
  have hX := lt_of_block F0
  have HX : Hid (w.heap.size < w1.heap.size) := hX
  have x0 := cell_of_row _ _ 0 _ _ _ F0
  have x1 := cell_of_row _ _ 1 _ _ _ F0
  have x2 := cell_of_row _ _ 2 _ _ _ F0
  have x3 := cell_of_row _ _ 3 _ _ _ F0
  have x0A : ∀ W, Kept (fun _ => True) w1 W → W.cell? ⟨w.heap.size, 0, none⟩ = some (.int .i64 k) := fun W q => (kept_cell q hX trivial).trans x0
  have x1A : ∀ W, Kept (fun _ => True) w1 W → W.cell? ⟨w.heap.size, 1, none⟩ = some (.string ⟨tx.toArray⟩) := fun W q => (kept_cell q hX trivial).trans x1
  have x2A : ∀ W, Kept (fun _ => True) w1 W → W.cell? ⟨w.heap.size, 2, none⟩ = some (.slice ao gs.length cap) := fun W q => (kept_cell q hX trivial).trans x2
  have x3A : ∀ W, Kept (fun _ => True) w1 W → W.cell? ⟨w.heap.size, 3, none⟩ = some (.string ⟨bd.toArray⟩) := fun W q => (kept_cell q hX trivial).trans x3
  have HGi : Hid (Gi w1 ao gs) := h.all k0
  have K0 : Hid (Kept (fun _ => True) w w1) := k0
  clear F0 k0 h x0 x1 x2 x3 hX
  go_enter Try.func19, Try.ntmps19
  go_upto_region 1 with fail
  rw [← hw1]
  clear hw1
  generalize w.heap.size = X at *
  refine Gz.begin (fun W => Kept (fun _ => True) w1 W) (fun _ => false) (by kernel_rfl) ?_
  refine Gz.take (i := 0) (oi := { dst := some 5, op := Op.fieldAddr 48 (Operand.tmp 1) 0, type := 0, pos := _, after := _, guard := none }) (v := ?_) rfl (by kernel_rfl) (by kernel_rfl) (by kernel_rfl) (by kernel_rfl) (fun _ _ _ h => h) (Or.inl ⟨by rfl, ?hy0⟩) (Kept.refl _ _).drew ?_
  case hy0 => (intro W hSw; (try dsimp only at hSw); go_simp; try with_reducible rfl)
  try simp only [Act.put, List.setIfInBounds_toArray, List.set_cons_zero, List.set_cons_succ]
  refine Gz.take (i := 1) (oi := { dst := some 6, op := Op.load 3 (Operand.tmp 5), type := 3, pos := _, after := _, guard := none }) (v := ?_) rfl (by kernel_rfl) (by kernel_rfl) (by kernel_rfl) (by kernel_rfl) (fun _ _ _ h => h) (Or.inl ⟨by rfl, ?hy1⟩) (Kept.refl _ _).drew ?_
  case hy1 => (intro W hSw; (try dsimp only at hSw); go_simp; try with_reducible rfl)
  try simp only [Act.put, List.setIfInBounds_toArray, List.set_cons_zero, List.set_cons_succ]
  refine Gz.take (i := 3) (oi := { dst := some 8, op := Op.fieldAddr 48 (Operand.tmp 1) 1, type := 0, pos := _, after := _, guard := none }) (v := ?_) rfl (by kernel_rfl) (by kernel_rfl) (by kernel_rfl) (by kernel_rfl) (fun _ _ _ h => h) (Or.inl ⟨by rfl, ?hy3⟩) (Kept.refl _ _).drew ?_
  case hy3 => (intro W hSw; (try dsimp only at hSw); go_simp; try with_reducible rfl)
  try simp only [Act.put, List.setIfInBounds_toArray, List.set_cons_zero, List.set_cons_succ]
  refine Gz.take (i := 4) (oi := { dst := some 9, op := Op.load 9 (Operand.tmp 8), type := 9, pos := _, after := _, guard := none }) (v := ?_) rfl (by kernel_rfl) (by kernel_rfl) (by kernel_rfl) (by kernel_rfl) (fun _ _ _ h => h) (Or.inl ⟨by rfl, ?hy4⟩) (Kept.refl _ _).drew ?_
  case hy4 => (intro W hSw; (try dsimp only at hSw); go_simp; try with_reducible rfl)
  try simp only [Act.put, List.setIfInBounds_toArray, List.set_cons_zero, List.set_cons_succ]
  refine Gz.take (i := 6) (oi := { dst := some 11, op := Op.fieldAddr 48 (Operand.tmp 1) 2, type := 0, pos := _, after := _, guard := none }) (v := ?_) rfl (by kernel_rfl) (by kernel_rfl) (by kernel_rfl) (by kernel_rfl) (fun _ _ _ h => h) (Or.inl ⟨by rfl, ?hy6⟩) (Kept.refl _ _).drew ?_
  case hy6 => (intro W hSw; (try dsimp only at hSw); go_simp; try with_reducible rfl)
  try simp only [Act.put, List.setIfInBounds_toArray, List.set_cons_zero, List.set_cons_succ]
  refine Gz.take (i := 7) (oi := { dst := some 12, op := Op.load 22 (Operand.tmp 11), type := 22, pos := _, after := _, guard := none }) (v := ?_) rfl (by kernel_rfl) (by kernel_rfl) (by kernel_rfl) (by kernel_rfl) (fun _ _ _ h => h) (Or.inl ⟨by rfl, ?hy7⟩) (Kept.refl _ _).drew ?_
  case hy7 => (intro W hSw; (try dsimp only at hSw); go_simp; try with_reducible rfl)
  try simp only [Act.put, List.setIfInBounds_toArray, List.set_cons_zero, List.set_cons_succ]
  refine Gz.take (i := 8) (oi := { dst := some 13, op := Op.call { callee := Callee.builtin Builtin.len, args := #[Operand.tmp 12], argTypes := #[22] }, type := 3, pos := _, after := _, guard := none }) (v := ?_) rfl (by kernel_rfl) (by kernel_rfl) (by kernel_rfl) (by kernel_rfl) (fun _ _ _ h => h) (Or.inl ⟨by rfl, ?hy8⟩) (Kept.refl _ _).drew ?_
  case hy8 => (intro W hSw; (try dsimp only at hSw); go_simp; try with_reducible rfl)
  try simp only [Act.put, List.setIfInBounds_toArray, List.set_cons_zero, List.set_cons_succ]
  refine Gz.one (i := 2) (o := { dst := some 7, op := Op.call { callee := Callee.value (Operand.func 49), args := #[Operand.const (Value.slice none 0 0), Operand.tmp 6], argTypes := #[25, 3] }, type := 25, pos := _, after := _, guard := none }) (by kernel_rfl) rfl (fun K hK => ?_)
  go_simp
  with_reducible refine Calls.mono (rb_any (w := w1.drew) (v := .slice none 0 0) (bs := []) k (sl_nil _) (by simp)) ?_
  rintro e w3 ⟨r3, rfl, h3, k3⟩
  have s3 : Kept (fun _ => True) w1 w3 := (Kept.refl _ _).drew.trans k3
  rw [List.nil_append] at h3
  try go_wp2_with fail
  refine hK.out _ _ (fun _ => s3) ?_
  clear hK K
  try simp only [Act.put, List.setIfInBounds_toArray, List.set_cons_zero, List.set_cons_succ]
  refine Gz.one (i := 5) (o := { dst := some 10, op := Op.call { callee := Callee.value (Operand.func 50), args := #[Operand.tmp 7, Operand.tmp 9], argTypes := #[25, 9] }, type := 25, pos := _, after := _, guard := none }) (by kernel_rfl) rfl (fun K hK => ?_)
  go_simp
  with_reducible refine Calls.mono (rt_any tx h3 (by rw [enc_length]; omega)) ?_
  rintro e w4 ⟨r4, rfl, h4, k4⟩
  have s4 := s3.trans k4
  try go_wp2_with fail
  refine hK.out _ _ (fun _ => s4) ?_
  clear hK K
  try simp only [Act.put, List.setIfInBounds_toArray, List.set_cons_zero, List.set_cons_succ]
  refine Gz.one (i := 9) (o := { dst := some 14, op := Op.call { callee := Callee.value (Operand.func 49), args := #[Operand.tmp 10, Operand.tmp 13], argTypes := #[25, 3] }, type := 25, pos := _, after := _, guard := none }) (by kernel_rfl) rfl (fun K hK => ?_)
  go_simp
  with_reducible refine Calls.mono (rb_any (gs.length : Int) h4 (by simp only [List.length_append, enc_length]; omega)) ?_
  rintro e w5 ⟨r5, rfl, h5, k5⟩
  have s5 := s4.trans k5
  try go_wp2_with fail
  refine hK.out _ _ (fun _ => s5) ?_
  clear hK K
  try simp only [Act.put, List.setIfInBounds_toArray, List.set_cons_zero, List.set_cons_succ]
  refine Gz.take (i := 10) (oi := { dst := some 3, op := Op.assign (Operand.tmp 14), type := 25, pos := _, after := _, guard := none }) (v := ?_) rfl (by kernel_rfl) (by kernel_rfl) (by kernel_rfl) (by kernel_rfl) (fun _ _ _ h => h) (Or.inl ⟨by rfl, ?hy10⟩) s5 ?_
  case hy10 => (intro W hSw; (try dsimp only at hSw); go_simp; try with_reducible rfl)
  try simp only [Act.put, List.setIfInBounds_toArray, List.set_cons_zero, List.set_cons_succ]
  refine Gz.done (by kernel_rfl) ?_ _
  have S5 : Hid (Sl w5 r5 (enc (u64 k) 1 ++ enc (u64 tx.length) 4 ++ tx ++ enc (u64 gs.length) 1)) := h5
  have K5 : Hid (Kept (fun _ => True) w1 w5) := s5
  have HP : Hid ((enc (u64 k) 1 ++ enc (u64 tx.length) 4 ++ tx ++ enc (u64 gs.length) 1).length = tx.length + 6) := by show _ = _; simp only [List.length_append, enc_length]; omega
  clear h5 s5
  generalize hpre : enc (u64 k) 1 ++ enc (u64 tx.length) 4 ++ tx ++ enc (u64 gs.length) 1 = P at *
  clear hpre
  go_wp2_with fail
  go_loopw [3, 4] (fun v t wr => ∃ i : Nat, i ≤ gs.length ∧ t = .int .i64 i ∧ Sl wr v (P ++ encGi (gs.take i)) ∧ Kept (fun _ => True) w1 wr) (fun _ t _ => gs.length - (intOf t).toNat)
  case atStart => exact ⟨0, Nat.zero_le _, rfl, by simpa [encGi] using S5.out, K5.out⟩
  case round =>
    obtain ⟨i, hi, rfl, hS, hk⟩ := hrel
    have HS : Hid (Sl wr u3 (P ++ encGi (gs.take i))) := hS
    have HK : Hid (Kept (fun _ => True) w1 wr) := hk
    have x2 := x2A wr hk
    clear S5 K5
    by_cases hlt : i < gs.length
    · obtain ⟨b, off, rfl, hb, hc⟩ := HGi.out (by omega)
      have c0 := (kept_cell hk hb trivial).trans (hc i hlt)
      have HTK : Hid (gs.take (i + 1) = gs.take i ++ [gs[i]]) := List.take_succ_eq_append_getElem hlt
      have hl : (P ++ encGi (gs.take i)).length ≤ tx.length + 6 + gs.length := by
        rw [List.length_append, HP.out, encGi_len, List.length_take]; omega
      have cb := rb_any gs[i] HS.out (by omega)
      have HI : Hid (i < gs.length) := hlt
      have i0 : (0 : Int) ≤ (i : Int) := by omega
      have i1 : (i : Int) < (gs.length : Int) := by omega
      clear hc hl hS hk
      generalize gs[i] = g at *
      clear hlt
      go_wp2_with (go_at_call 49; (with_reducible refine Calls.mono cb ?_); rintro e w6 ⟨r6, rfl, h6, k6⟩; have S6 : Hid (Sl w6 r6 (P ++ encGi (gs.take (i + 1)))) := (by show Sl _ _ _; rw [HTK.out, encGi_snoc, ← List.append_assoc]; exact h6); have K6 : Hid (Kept (fun _ => True) w1 w6) := HK.out.trans k6; clear h6 k6)
      go_roundw
      case rel => exact ⟨i + 1, by have := HI.out; omega, by go_num, S6.out, K6.out⟩
      case measure => have := HI.out; simp [intOf]; omega
    · obtain rfl : i = gs.length := by omega
      have i1 : ¬ ((gs.length : Nat) : Int) < (gs.length : Int) := by omega
      have S6 : Sl wr u3 (P ++ encGi gs) := by have := HS.out; rwa [List.take_length] at this
      have x3 := x3A wr hk
      have hl : (P ++ encGi gs).length = tx.length + 6 + gs.length := by rw [List.length_append, HP.out, encGi_len]
      have c6 := rt_any bd S6 (by omega)
      obtain ⟨Q, hQ⟩ : ∃ Q, Q = P ++ encGi gs ++ enc (u64 bd.length) 4 ++ bd := ⟨_, rfl⟩
      rw [← hQ] at c6
      have HR2 : Hid (R = Q) := by show _ = _; rw [hQ]; exact HR.out
      clear hl S6 HS hlt hi hQ hS hk
      go_wp2_with (go_at_call 50; (with_reducible refine Calls.mono c6 ?_); rintro e w7 ⟨r7, rfl, h7, k7⟩; have hcv := conv_sl h7; have K7 : Hid (Kept (fun _ => True) w1 w7) := HK.out.trans k7; clear h7 k7 c6)
      go_ret
      exact ⟨by rw [HR2.out]; rfl, K0.out.trans K7.out⟩

end Go.Proofs.Ytbooeabmpdpgpaa
