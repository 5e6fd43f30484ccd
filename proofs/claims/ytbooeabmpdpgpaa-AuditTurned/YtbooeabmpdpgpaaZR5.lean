/-
  The document's Encode.
-/
import Derived.Test.YtbooeabmpdpgpaaZR1
import Derived.Test.YtbooeabmpdpgpaaZ5
import Derived.Test.YtbooeabmpdpgpaaXRf1
namespace Go.Proofs.Ytbooeabmpdpgpaa
open Go.RowKit

theorem has_range {w : World} {b o : Nat} {bs : List UInt8} (h : w.rangeAt b o (cells bs)) : Has w (some ⟨b, o, none⟩) bs := by
  intro _
  refine ⟨_, rfl, fun j hj => ?_⟩
  rw [WideShapes.add_plain]
  exact h j _ (by rw [cells_getElem bs j hj])
theorem slice_at (B o : Nat) (w0 : World) : (Instr.sliceAt 78 (.pointer (some ⟨B, o, none⟩)) none none none).run Try.prog w0 = .ok (.slice (some ⟨B, o, none⟩) 32 32) w0 := by
  have hu : Try.prog.underlying 78 = some (.array (Try.prog.arrayLen 78) (Try.prog.elem 78)) := by kernel_rfl
  have hn : Try.prog.arrayLen 78 = 32 := by kernel_rfl
  have he : Try.prog.elem 78 = Try.prog.elem 25 := by kernel_rfl
  rw [run_sliceAt_array_all (P := Try.prog) w0 78 ⟨B, o, none⟩ hu, he, size_u8, hn]
  simp [Result.andThen, slicedAt, Addr.add]
/-- Bytes of one's own. -/
def Ob (w : World) (base : Nat) (v : Value) (bs : List UInt8) : Prop := w.ownsRow base 5 1 v bs.length (cells bs)
theorem Ob.all {w w' : World} {base : Nat} {v : Value} {bs : List UInt8} (h : Ob w base v bs) (hk : Kept (fun _ => True) w w') : Ob w' base v bs := ownL_kept h hk (fun _ _ => trivial)

set_option maxRecDepth 100000 in
set_option maxHeartbeats 2000000 in
theorem rencode_any {w : World} {ao : Option Addr} {cap : Nat} {xs : List Li} (h : Lv w ao xs) (hn : xs.length ≤ 100000) (hw : wgt xs ≤ 100000000000) :
    Calls Try.prog 25 #[.slice ao xs.length cap] w fun e w' => ∃ a' c', e = .returned (.slice a' (encL xs).length c') ∧ Ob w' w.heap.size (.slice a' (encL xs).length c') (encL xs) ∧ Kept (fun _ => True) w w' := by
  have HV : Hid (Lv w ao xs) := h
  have HW : Hid (wgt xs ≤ 100000000000) := hw
  have c4 := rfour_any (w := w) (v := .slice none 0 0) (bs := []) (xs.length : Int) ⟨none, 0, rfl, fun _ => rfl, fun h => by simp at h⟩ (by simp)
  rw [u64_nat (by omega), List.nil_append] at c4
  clear h hw
  go_enter Try.func25, Try.ntmps25
  go_wp2_with (go_at_call 55; (with_reducible refine Calls.mono c4 ?_); rintro e w1 ⟨r1, rfl, h1, k1⟩; obtain ⟨a1, c1, rfl⟩ := own_shape h1)
  have H1 : Hid (Ob w1 w.heap.size (.slice a1 (enc (xs.length : Nat) 4).length c1) (enc (xs.length : Nat) 4)) := by
    exact h1
  have K1 : Hid (Kept (fun _ => True) w w1) := k1
  clear h1 k1 c4
  go_loopw [3, 4] (fun v t wr => ∃ (k : Nat) (a' : Option Addr) (c' : Nat), k ≤ xs.length ∧ t = .int .i64 k ∧ v = .slice a' (enc (xs.length : Nat) 4 ++ encB (xs.take k)).length c' ∧ Ob wr w.heap.size (.slice a' (enc (xs.length : Nat) 4 ++ encB (xs.take k)).length c') (enc (xs.length : Nat) 4 ++ encB (xs.take k)) ∧ Kept (fun _ => True) w wr) (fun _ t _ => xs.length - (intOf t).toNat)
  case atStart => exact ⟨0, a1, c1, Nat.zero_le _, rfl, by simp [encB], by simpa [encB] using H1.out, K1.out⟩
  case round =>
    obtain ⟨k, a', c', hk, rfl, rfl, ho, kr⟩ := hrel
    have lcur : (enc (xs.length : Nat) 4 ++ encB (xs.take k)).length ≤ 100000000004 := by
      rw [List.length_append, enc_length, encB_len]
      have := wgt_take_le xs k
      have := HW.out
      omega
    by_cases hlt : k < xs.length
    · obtain ⟨b, off, rfl, hb, hc⟩ := HV.out.row (by omega)
      have HR : Hid (wr.rangeAt b (off + k * 33) (lcell xs[k])) := range_kept (hc k hlt) kr hb trivial
      have i0 : (0 : Int) ≤ (k : Int) := by omega
      have i1 : (k : Int) < (xs.length : Int) := by omega
      have hS2 : (enc (xs.length : Nat) 4 ++ encB (xs.take (k + 1))).length ≤ 100000000004 := by
        rw [List.length_append, enc_length, encB_len]
        have := wgt_take_le xs (k + 1)
        have := HW.out
        omega
      have HS : Hid (enc (xs.length : Nat) 4 ++ encB (xs.take (k + 1)) = enc (xs.length : Nat) 4 ++ encB (xs.take k) ++ encI xs[k]) := by
        show _ = _
        rw [encB_take_succ xs k hlt, List.append_assoc]
      rw [HS.out, List.length_append, encI_len] at hS2
      have hbr : b < wr.heap.size := Nat.lt_of_lt_of_le hb kr.size
      have KR : Hid (Kept (fun _ => True) w wr) := kr
      have HO : Hid (Ob wr w.heap.size (.slice a' (enc (xs.length : Nat) 4 ++ encB (xs.take k)).length c') (enc (xs.length : Nat) 4 ++ encB (xs.take k))) := ho
      clear hc ho kr
      generalize enc (xs.length : Nat) 4 ++ encB (xs.take k) = cur at *
      generalize hnx : enc (xs.length : Nat) 4 ++ encB (xs.take (k + 1)) = nxt' at *
      have HNX : Hid (enc (xs.length : Nat) 4 ++ encB (xs.take (k + 1)) = nxt') := hnx
      clear hnx
      generalize xs[k] = x at *
      have LX : Hid (x.h.length = 32) := x.len
      obtain ⟨cur1, hcur1⟩ : ∃ c, c = cur ++ enc (x.t.length : Nat) 4 ++ x.t := ⟨_, rfl⟩
      obtain ⟨n1, hn1⟩ : ∃ n, n = cur1.length := ⟨_, rfl⟩
      have lc1 : n1 = cur.length + 4 + x.t.length := by rw [hn1, hcur1]; simp only [List.length_append, enc_length]
      have HF : Hid (nxt' = cur1 ++ x.h) := by
        show _ = _
        rw [HS.out, hcur1]
        unfold encI
        simp only [List.append_assoc]
      have HB2 : Hid (n1 + 32 ≤ 140737488355328) := by show _ ≤ _; omega
      have HN1 : Hid (n1 = cur1.length) := hn1
      have CT : ∀ W, Ob W w.heap.size (.slice a' cur.length c') cur → Calls Try.prog 50 #[.slice a' cur.length c', .string ⟨x.t.toArray⟩] W fun e w' => ∃ a5 c5, e = .returned (.slice a5 n1 c5) ∧ w'.ownsRow W.heap.size 5 1 (.slice a5 n1 c5) n1 (cells cur1) ∧ Kept (fun _ => True) W w' := fun W hW => by
        have es : ((⟨x.t.toArray⟩ : ByteArray).size : Int) = ((x.t.length : Nat) : Int) := by simp [ByteArray.size]
        have := rtext_any (w := W) (v := .slice a' cur.length c') (bs := cur) ⟨x.t.toArray⟩ (own_sl hW) (by simp [ByteArray.size]; omega)
        rw [es, u64_nat (by omega)] at this
        refine this.mono ?_
        rintro e w' ⟨r, rfl, h2, k2⟩
        have h3 : w'.ownsRow W.heap.size 5 1 r n1 (cells cur1) := by rw [hn1, hcur1]; exact h2
        have h4 : w'.ownsRow W.heap.size 5 1 r cur1.length (cells cur1) := by rw [← hn1]; exact h3
        obtain ⟨a5, c5, e5, _, _⟩ := own_sl h4
        rw [← hn1] at e5
        subst e5
        exact ⟨a5, c5, rfl, h3, k2⟩
      have hsl := fun (w0 : World) => slice_at b (off + k * 33 + 1) w0
      have ct : ∀ W, Kept (fun _ => True) wr W → W.cell? ⟨b, off + k * 33, none⟩ = some (.string ⟨x.t.toArray⟩) := fun W hW => range_text (range_kept HR.out hW hbr trivial)
      clear hS2 hcur1 hn1 lc1 lcur
      go_wp2
      refine Gz.begin (fun W => Kept (fun _ => True) wr W) (fun _ => false) (by kernel_rfl) ?_
      refine Gz.take (i := 0) (oi := { dst := some 14, op := Op.move (Operand.tmp 3), type := 25, pos := _, after := _, guard := none }) (v := ?_) rfl (by kernel_rfl) (by kernel_rfl) (by kernel_rfl) (by kernel_rfl) (fun _ _ _ h => h) (Or.inl ⟨by rfl, ?hy0⟩) (Kept.refl _ _).drew ?_
      case hy0 => (intro W hSw; (try dsimp only at hSw); go_simp; try with_reducible rfl)
      try simp only [Act.put, List.setIfInBounds_toArray, List.set_cons_zero, List.set_cons_succ]
      refine Gz.take (i := 1) (oi := { dst := some 15, op := Op.move (Operand.tmp 0), type := 65, pos := _, after := _, guard := none }) (v := ?_) rfl (by kernel_rfl) (by kernel_rfl) (by kernel_rfl) (by kernel_rfl) (fun _ _ _ h => h) (Or.inl ⟨by rfl, ?hy1⟩) (Kept.refl _ _).drew ?_
      case hy1 => (intro W hSw; (try dsimp only at hSw); go_simp; try with_reducible rfl)
      try simp only [Act.put, List.setIfInBounds_toArray, List.set_cons_zero, List.set_cons_succ]
      refine Gz.take (i := 2) (oi := { dst := some 16, op := Op.move (Operand.tmp 4), type := 3, pos := _, after := _, guard := none }) (v := ?_) rfl (by kernel_rfl) (by kernel_rfl) (by kernel_rfl) (by kernel_rfl) (fun _ _ _ h => h) (Or.inl ⟨by rfl, ?hy2⟩) (Kept.refl _ _).drew ?_
      case hy2 => (intro W hSw; (try dsimp only at hSw); go_simp; try with_reducible rfl)
      try simp only [Act.put, List.setIfInBounds_toArray, List.set_cons_zero, List.set_cons_succ]
      refine Gz.take (i := 3) (oi := { dst := some 17, op := Op.indexAddr 65 (Operand.tmp 15) (Operand.tmp 16), type := 0, pos := _, after := _, guard := none }) (v := ?_) rfl (by kernel_rfl) (by kernel_rfl) (by kernel_rfl) (by kernel_rfl) (fun _ _ _ h => h) (Or.inl ⟨by rfl, ?hy3⟩) (Kept.refl _ _).drew ?_
      case hy3 => (intro W hSw; (try dsimp only at hSw); go_simp; try with_reducible rfl)
      try simp only [Act.put, List.setIfInBounds_toArray, List.set_cons_zero, List.set_cons_succ]
      refine Gz.take (i := 4) (oi := { dst := some 18, op := Op.fieldAddr 80 (Operand.tmp 17) 0, type := 0, pos := _, after := _, guard := none }) (v := ?_) rfl (by kernel_rfl) (by kernel_rfl) (by kernel_rfl) (by kernel_rfl) (fun _ _ _ h => h) (Or.inl ⟨by rfl, ?hy4⟩) (Kept.refl _ _).drew ?_
      case hy4 => (intro W hSw; (try dsimp only at hSw); go_simp; try with_reducible rfl)
      try simp only [Act.put, List.setIfInBounds_toArray, List.set_cons_zero, List.set_cons_succ]
      refine Gz.take (i := 5) (oi := { dst := some 19, op := Op.load 9 (Operand.tmp 18), type := 9, pos := _, after := _, guard := none }) (v := ?_) rfl (by kernel_rfl) (by kernel_rfl) (by kernel_rfl) (by kernel_rfl) (fun _ _ _ h => h) (Or.inl ⟨by rfl, ?hy5⟩) (Kept.refl _ _).drew ?_
      case hy5 => (intro W hSw; (try dsimp only at hSw); go_simp; try with_reducible rfl)
      try simp only [Act.put, List.setIfInBounds_toArray, List.set_cons_zero, List.set_cons_succ]
      refine Gz.take (i := 7) (oi := { dst := some 21, op := Op.move (Operand.tmp 0), type := 65, pos := _, after := _, guard := none }) (v := ?_) rfl (by kernel_rfl) (by kernel_rfl) (by kernel_rfl) (by kernel_rfl) (fun _ _ _ h => h) (Or.inl ⟨by rfl, ?hy7⟩) (Kept.refl _ _).drew ?_
      case hy7 => (intro W hSw; (try dsimp only at hSw); go_simp; try with_reducible rfl)
      try simp only [Act.put, List.setIfInBounds_toArray, List.set_cons_zero, List.set_cons_succ]
      refine Gz.take (i := 8) (oi := { dst := some 22, op := Op.move (Operand.tmp 4), type := 3, pos := _, after := _, guard := none }) (v := ?_) rfl (by kernel_rfl) (by kernel_rfl) (by kernel_rfl) (by kernel_rfl) (fun _ _ _ h => h) (Or.inl ⟨by rfl, ?hy8⟩) (Kept.refl _ _).drew ?_
      case hy8 => (intro W hSw; (try dsimp only at hSw); go_simp; try with_reducible rfl)
      try simp only [Act.put, List.setIfInBounds_toArray, List.set_cons_zero, List.set_cons_succ]
      refine Gz.take (i := 9) (oi := { dst := some 23, op := Op.indexAddr 65 (Operand.tmp 21) (Operand.tmp 22), type := 0, pos := _, after := _, guard := none }) (v := ?_) rfl (by kernel_rfl) (by kernel_rfl) (by kernel_rfl) (by kernel_rfl) (fun _ _ _ h => h) (Or.inl ⟨by rfl, ?hy9⟩) (Kept.refl _ _).drew ?_
      case hy9 => (intro W hSw; (try dsimp only at hSw); go_simp; try with_reducible rfl)
      try simp only [Act.put, List.setIfInBounds_toArray, List.set_cons_zero, List.set_cons_succ]
      refine Gz.take (i := 10) (oi := { dst := some 24, op := Op.fieldAddr 80 (Operand.tmp 23) 1, type := 0, pos := _, after := _, guard := none }) (v := ?_) rfl (by kernel_rfl) (by kernel_rfl) (by kernel_rfl) (by kernel_rfl) (fun _ _ _ h => h) (Or.inl ⟨by rfl, ?hy10⟩) (Kept.refl _ _).drew ?_
      case hy10 => (intro W hSw; (try dsimp only at hSw); go_simp; try with_reducible rfl)
      try simp only [Act.put, List.setIfInBounds_toArray, List.set_cons_zero, List.set_cons_succ]
      refine Gz.take (i := 11) (oi := { dst := some 25, op := Op.slice 78 (Operand.tmp 24) none none none, type := 25, pos := _, after := _, guard := none }) (v := ?_) rfl (by kernel_rfl) (by kernel_rfl) (by kernel_rfl) (by kernel_rfl) (fun _ _ _ h => h) (Or.inl ⟨by rfl, ?hy11⟩) (Kept.refl _ _).drew ?_
      case hy11 => (intro W hSw; (try dsimp only at hSw); go_simp; try with_reducible rfl)
      try simp only [Act.put, List.setIfInBounds_toArray, List.set_cons_zero, List.set_cons_succ]
      refine Gz.one (i := 6) (o := { dst := some 20, op := Op.call { callee := Callee.value (Operand.func 50), args := #[Operand.tmp 14, Operand.tmp 19], argTypes := #[25, 9] }, type := 25, pos := _, after := _, guard := none }) (by kernel_rfl) rfl (fun K hK => ?_)
      go_simp
      with_reducible refine Calls.mono (CT _ (HO.out.all (Kept.refl (fun _ => True) wr).drew)) ?_
      rintro e w5 ⟨a5, c5, rfl, ho5, k5⟩
      have s5 : Kept (fun _ => True) wr w5 := (Kept.refl _ _).drew.trans k5
      have HO5 : Hid (w5.ownsRow wr.heap.size 5 1 (.slice a5 n1 c5) n1 (cells cur1)) := ho5
      have HH5 : Hid (Has w5 (some ⟨b, off + k * 33 + 1, none⟩) x.h) := has_range (range_head (range_kept HR.out s5 hbr trivial))
      clear ho5 k5
      try go_wp2_with fail
      refine hK.out _ _ (fun _ => s5) ?_
      clear hK K
      try simp only [Act.put, List.setIfInBounds_toArray, List.set_cons_zero, List.set_cons_succ]
      refine Gz.one (i := 12) (o := { dst := some 26, op := Op.call { callee := Callee.builtin Builtin.append, args := #[Operand.tmp 20, Operand.tmp 25], argTypes := #[25, 25] }, type := 25, pos := _, after := _, guard := none }) (by kernel_rfl) rfl (fun K hK => ?_)
      refine step_append_has rfl (.tmp 20) (.tmp 25) rfl wr.heap.size (.slice a5 n1 c5) n1 (cells cur1) rfl HO5.out s5.size (some ⟨b, off + k * 33 + 1, none⟩) 32 32 rfl x.h LX.out (by simp) HH5.out HB2.out ?_
      intro a7 c7 w7 ho7 hg7 at7
      have k7 : Kept (fun _ => True) wr w7 := s5.grown hg7 (fun i hi e => by have := (World.ownsRow.lt HO5.out i e).1; omega)
      have HO7 : Hid (w7.ownsRow wr.heap.size 5 1 (.slice a7 (n1 + 32) c7) (n1 + 32) (cells cur1 ++ cells x.h)) := ho7
      clear ho7 hg7 at7
      refine hK.out _ _ (fun _ => k7) ?_
      clear hK K
      try simp only [Act.put, List.setIfInBounds_toArray, List.set_cons_zero, List.set_cons_succ]
      refine Gz.take (i := 13) (oi := { dst := some 3, op := Op.assign (Operand.tmp 26), type := 25, pos := _, after := _, guard := none }) (v := ?_) rfl (by kernel_rfl) (by kernel_rfl) (by kernel_rfl) (by kernel_rfl) (fun _ _ _ h => h) (Or.inl ⟨by rfl, ?hy13⟩) k7 ?_
      case hy13 => (intro W hSw; (try dsimp only at hSw); go_simp; try with_reducible rfl)
      try simp only [Act.put, List.setIfInBounds_toArray, List.set_cons_zero, List.set_cons_succ]
      refine Gz.done (by kernel_rfl) ?_ _
      go_wp2_with fail
      go_roundw
      case rel =>
        have hl : nxt'.length = n1 + 32 := by rw [HF.out, List.length_append, LX.out, HN1.out]
        refine ⟨k + 1, a7, c7, by omega, by go_num, by rw [HNX.out, hl], ?_, KR.out.trans k7⟩
        rw [HNX.out]
        unfold Ob
        rw [hl]
        have := HO7.out
        rw [← cells_append, ← HF.out] at this
        exact World.ownsRow.mono this KR.out.size
      case measure => simp [intOf]; omega
    · have i1 : ¬ (k : Int) < (xs.length : Int) := by omega
      have hke : k = xs.length := by omega
      subst hke
      rw [List.take_length] at ho ⊢
      have HX : Hid (Ob wr w.heap.size (.slice a' (encL xs).length c') (encL xs)) := ho
      have HE : Hid (enc (xs.length : Nat) 4 ++ encB xs = encL xs) := rfl
      clear ho lcur
      rw [HE.out]
      go_wp2
      go_ret
      exact ⟨a', c', rfl, HX.out, kr⟩

end Go.Proofs.Ytbooeabmpdpgpaa
