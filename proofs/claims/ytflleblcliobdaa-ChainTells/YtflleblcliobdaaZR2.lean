/-
  The document's Check.
-/
import Derived.Test.YtflleblcliobdaaZR1
import Derived.Test.YtflleblcliobdaaZ3
namespace Go.Proofs.Ytflleblcliobdaa
open Go.RowKit

set_option maxRecDepth 100000 in
set_option maxHeartbeats 2000000 in
theorem rcheck_any {w : World} {ao : Option Addr} {cap : Nat} {xs : List Li} (h : Lv w ao xs) (hn : xs.length ≤ 100000) (hs : ∀ x ∈ xs, x.t.length ≤ 100000) :
    Calls Try.prog 19 #[.slice ao xs.length cap] w fun e w' => EChk xs w e w' := by
  have HV : Hid (Lv w ao xs) := h
  have HS : Hid (∀ x ∈ xs, x.t.length ≤ 100000) := hs
  have hgd := guard32
  clear h hs
  go_enter Try.func19, Try.ntmps19
  go_wp2_with ((with_reducible refine w_alloc (d := some 3) arr32 ?_); intro w2 a3 k2 s2)
  have A3 : Ar w2 w.heap.size 25 (cells zero32) := a3
  obtain ⟨B, hB⟩ : ∃ B, B = w.heap.size := ⟨_, rfl⟩
  rw [← hB] at A3 ⊢
  have HB : Hid (B = w.heap.size) := hB
  have HA : Hid (Ar w2 B 25 (cells zero32)) := A3
  have K2 : Hid (Kept (fun _ => True) w w2) := k2
  clear hB a3 A3 k2 s2
  go_loopw [4] (fun t wr => ∃ k : Nat, k ≤ xs.length ∧ t = .int .i64 k ∧ Ar wr B 25 (cells (hAt zero32 (txs xs) k)) ∧ (∀ j (_ : j < k) (hj : j < xs.length), okL xs j hj) ∧ Kept (fun _ => True) w wr) (fun t _ => xs.length - (intOf t).toNat)
  case atStart => exact ⟨0, Nat.zero_le _, rfl, HA.out, fun j h => by omega, K2.out⟩
  case round =>
    obtain ⟨k, hk, rfl, ar, hall, kr⟩ := hrel
    have HL : Hid (∀ j (_ : j < k) (hj : j < xs.length), okL xs j hj) := hall
    have AR : Hid (Ar wr B 25 (cells (hAt zero32 (txs xs) k))) := ar
    clear hall ar
    by_cases hlt : k < xs.length
    · obtain ⟨b, off, rfl, hb, hc⟩ := HV.out.row (by omega)
      have hr := range_kept (hc k hlt) kr hb trivial
      have i0 : (0 : Int) ≤ (k : Int) := by omega
      have i1 : (k : Int) < (xs.length : Int) := by omega
      have hN : hAt zero32 (txs xs) (k + 1) = nxt (hAt zero32 (txs xs) k) xs[k].t := by
        rw [hAt_succ zero32 (txs xs) k (by rw [txs_length]; exact hlt), txs_get xs k hlt]
      have HO : Hid (okL xs k hlt ↔ xs[k].h = hAt zero32 (txs xs) (k + 1)) := Iff.rfl
      have lt : (xs[k].t).length ≤ 100000 := HS.out _ (List.getElem_mem _)
      have lh : (hAt zero32 (txs xs) k).length = 32 := hAt_len zero32_len _ k
      have lx := xs[k].len
      generalize hAt zero32 (txs xs) k = hd at *
      generalize hn2 : hAt zero32 (txs xs) (k + 1) = hd' at *
      have HN2 : Hid (hAt zero32 (txs xs) (k + 1) = hd') := hn2
      have cn := fun (w0 : World) => rnext_any (w := w0) hd xs[k].t lh lt
      have ln := nxt_len hd xs[k].t
      rw [← hN] at cn ln
      have HR : Hid (wr.rangeAt b (off + k * 33) (lcell xs[k])) := hr
      have HOK : Hid (xs[k].h = hd' → ∀ h : k < xs.length, okL xs k h) := fun e _ => HO.out.2 e
      have HNO : Hid (xs[k].h ≠ hd' → ∀ h : k < xs.length, ¬ okL xs k h) := fun e _ q => e (HO.out.1 q)
      clear hc hn2 hN hr HO
      generalize xs[k] = x at *
      have l32 : (cells hd).length = 32 := by rw [cells_length, lh]
      have ln2 : (cells hd').length = 32 := by rw [cells_length, ln]
      have lx2 : (cells x.h).length = 32 := by rw [cells_length, lx]
      have on2 := cells_one hd'
      have ih : (Try.prog.info? 25).map (·.size) = some (cells hd).length := by rw [l32]; exact arr32.size
      have ih2 : (Try.prog.info? 25).map (·.size) = some (cells hd').length := by rw [ln2]; exact arr32.size
      have ihx : (Try.prog.info? 25).map (·.size) = some (cells x.h).length := by rw [lx2]; exact arr32.size
      have hbr : b < wr.heap.size := Nat.lt_of_lt_of_le hb kr.size
      have hbB : b ≠ B := by have := HB.out; omega
      have ct : ∀ W, Kept (fun _ => True) wr W → W.cell? ⟨b, off + k * 33, none⟩ = some (.string ⟨x.t.toArray⟩) := fun W hW => range_text (range_kept HR.out hW hbr trivial)
      have KR : Hid (Kept (fun _ => True) w wr) := kr
      have LQ : Hid (hd'.length = 32 ∧ x.h.length = 32) := ⟨ln, lx⟩
      clear kr lt lh ln lx
      go_wp2
      refine Gz.begin (fun W => Kept (fun _ => True) wr W) (fun i => decide (i = 7)) (by kernel_rfl) ?_
      refine Gz.take (i := 0) (oi := { dst := some 11, op := Op.load 25 (Operand.tmp 3), type := 25, pos := _, after := _, guard := none }) (v := _) rfl (by kernel_rfl) (by kernel_rfl) (by kernel_rfl) (by kernel_rfl) (fun _ _ _ h => h) (yieldsIf_load_mid (by rfl) _ _ rfl (B) (0) rfl (cells hd) _ (fun W hW => (AR.out.kept hW trivial).range) Try.underlying25 rfl (ih)) (Kept.refl _ _).drew ?_
      try simp only [Act.put, List.setIfInBounds_toArray, List.set_cons_zero, List.set_cons_succ]
      refine Gz.take (i := 1) (oi := { dst := some 12, op := Op.move (Operand.tmp 0), type := 38, pos := _, after := _, guard := none }) (v := ?_) rfl (by kernel_rfl) (by kernel_rfl) (by kernel_rfl) (by kernel_rfl) (fun _ _ _ h => h) (Or.inl ⟨by rfl, ?hy1⟩) (Kept.refl _ _).drew ?_
      case hy1 => (intro W hSw; (try dsimp only at hSw); go_simp; try with_reducible rfl)
      try simp only [Act.put, List.setIfInBounds_toArray, List.set_cons_zero, List.set_cons_succ]
      refine Gz.take (i := 2) (oi := { dst := some 13, op := Op.move (Operand.tmp 4), type := 3, pos := _, after := _, guard := none }) (v := ?_) rfl (by kernel_rfl) (by kernel_rfl) (by kernel_rfl) (by kernel_rfl) (fun _ _ _ h => h) (Or.inl ⟨by rfl, ?hy2⟩) (Kept.refl _ _).drew ?_
      case hy2 => (intro W hSw; (try dsimp only at hSw); go_simp; try with_reducible rfl)
      try simp only [Act.put, List.setIfInBounds_toArray, List.set_cons_zero, List.set_cons_succ]
      refine Gz.take (i := 3) (oi := { dst := some 14, op := Op.indexAddr 38 (Operand.tmp 12) (Operand.tmp 13), type := 0, pos := _, after := _, guard := none }) (v := ?_) rfl (by kernel_rfl) (by kernel_rfl) (by kernel_rfl) (by kernel_rfl) (fun _ _ _ h => h) (Or.inl ⟨by rfl, ?hy3⟩) (Kept.refl _ _).drew ?_
      case hy3 => (intro W hSw; (try dsimp only at hSw); go_simp; try with_reducible rfl)
      try simp only [Act.put, List.setIfInBounds_toArray, List.set_cons_zero, List.set_cons_succ]
      refine Gz.take (i := 4) (oi := { dst := some 15, op := Op.fieldAddr 51 (Operand.tmp 14) 0, type := 0, pos := _, after := _, guard := none }) (v := ?_) rfl (by kernel_rfl) (by kernel_rfl) (by kernel_rfl) (by kernel_rfl) (fun _ _ _ h => h) (Or.inl ⟨by rfl, ?hy4⟩) (Kept.refl _ _).drew ?_
      case hy4 => (intro W hSw; (try dsimp only at hSw); go_simp; try with_reducible rfl)
      try simp only [Act.put, List.setIfInBounds_toArray, List.set_cons_zero, List.set_cons_succ]
      refine Gz.take (i := 5) (oi := { dst := some 16, op := Op.load 9 (Operand.tmp 15), type := 9, pos := _, after := _, guard := none }) (v := ?_) rfl (by kernel_rfl) (by kernel_rfl) (by kernel_rfl) (by kernel_rfl) (fun _ _ _ h => h) (Or.inl ⟨by rfl, ?hy5⟩) (Kept.refl _ _).drew ?_
      case hy5 => (intro W hSw; (try dsimp only at hSw); go_simp; try with_reducible rfl)
      try simp only [Act.put, List.setIfInBounds_toArray, List.set_cons_zero, List.set_cons_succ]
      refine Gz.one (i := 6) (o := { dst := some 17, op := Op.call { callee := Callee.value (Operand.func 12), args := #[Operand.tmp 11, Operand.tmp 16], argTypes := #[25, 9] }, type := 25, pos := _, after := _, guard := none }) (by kernel_rfl) rfl (fun K hK => ?_)
      go_simp
      with_reducible refine Calls.mono (cn _) ?_
      rintro e w5 ⟨rfl, k5⟩
      have s5 : Kept (fun _ => True) wr w5 := (Kept.refl _ _).drew.trans k5
      try go_wp2_with fail
      refine hK.out _ _ (fun _ => s5) ?_
      clear hK K
      try simp only [Act.put, List.setIfInBounds_toArray, List.set_cons_zero, List.set_cons_succ]
      refine Gz.one (i := 7) (o := { dst := none, op := Op.store 25 (Operand.tmp 3) (Operand.tmp 17), type := 0, pos := _, after := _, guard := none }) (by kernel_rfl) rfl (fun K hK => ?_)
      refine step_storeH (b := B) (xs := cells hd') (old := cells hd) rfl rfl (AR.out.kept s5 trivial) l32 ln2 on2 ?_
      intro w6 a6 k6 s6
      refine hK.out _ _ (fun hEarly => by cases hEarly) ?_
      clear hK K
      try simp only [Act.put, List.setIfInBounds_toArray, List.set_cons_zero, List.set_cons_succ]
      refine Gz.done (by kernel_rfl) ?_ _
      have K6 : Hid (Kept (· ≠ B) wr w6) := (s5.mono (fun _ _ _ => trivial)).trans k6
      have AR6 : Hid (Ar w6 B 25 (cells hd')) := a6
      have HR6 : Hid (w6.rangeAt b (off + k * 33 + 1) (cells x.h)) := range_head (range_kept HR.out K6.out hbr hbB)
      have hb6 : b < w6.heap.size := Nat.lt_of_lt_of_le hbr K6.out.size
      have KW : Hid (Kept (fun _ => True) w w6.drew) := by
        have hb2 := HB.out
        exact (KR.out.then K6.out (fun i hi _ => by omega)).drew
      clear a6 k6 s6 s5 k5 ct cn AR HR
      by_cases he : x.h = hd'
      · have hq := fun w0 => eq_yes LQ.out.1 he.symm w0
        have HE : Hid (x.h = hd') := he
        clear he
        go_wp2_with fail
        refine Gz.begin (fun W => Kept (fun _ => True) w6 W) (fun _ => false) (by kernel_rfl) ?_
        refine Gz.take (i := 0) (oi := { dst := some 18, op := Op.load 25 (Operand.tmp 3), type := 25, pos := _, after := _, guard := none }) (v := _) rfl (by kernel_rfl) (by kernel_rfl) (by kernel_rfl) (by kernel_rfl) (fun _ _ _ h => h) (yieldsIf_load_mid (by rfl) _ _ rfl (B) (0) rfl (cells hd') _ (fun W hW => (AR6.out.kept hW trivial).range) Try.underlying25 rfl (ih2)) (Kept.refl _ _).drew ?_
        try simp only [Act.put, List.setIfInBounds_toArray, List.set_cons_zero, List.set_cons_succ]
        refine Gz.take (i := 1) (oi := { dst := some 19, op := Op.move (Operand.tmp 0), type := 38, pos := _, after := _, guard := none }) (v := ?_) rfl (by kernel_rfl) (by kernel_rfl) (by kernel_rfl) (by kernel_rfl) (fun _ _ _ h => h) (Or.inl ⟨by rfl, ?hy1⟩) (Kept.refl _ _).drew ?_
        case hy1 => (intro W hSw; (try dsimp only at hSw); go_simp; try with_reducible rfl)
        try simp only [Act.put, List.setIfInBounds_toArray, List.set_cons_zero, List.set_cons_succ]
        refine Gz.take (i := 2) (oi := { dst := some 20, op := Op.move (Operand.tmp 4), type := 3, pos := _, after := _, guard := none }) (v := ?_) rfl (by kernel_rfl) (by kernel_rfl) (by kernel_rfl) (by kernel_rfl) (fun _ _ _ h => h) (Or.inl ⟨by rfl, ?hy2⟩) (Kept.refl _ _).drew ?_
        case hy2 => (intro W hSw; (try dsimp only at hSw); go_simp; try with_reducible rfl)
        try simp only [Act.put, List.setIfInBounds_toArray, List.set_cons_zero, List.set_cons_succ]
        refine Gz.take (i := 3) (oi := { dst := some 21, op := Op.indexAddr 38 (Operand.tmp 19) (Operand.tmp 20), type := 0, pos := _, after := _, guard := none }) (v := ?_) rfl (by kernel_rfl) (by kernel_rfl) (by kernel_rfl) (by kernel_rfl) (fun _ _ _ h => h) (Or.inl ⟨by rfl, ?hy3⟩) (Kept.refl _ _).drew ?_
        case hy3 => (intro W hSw; (try dsimp only at hSw); go_simp; try with_reducible rfl)
        try simp only [Act.put, List.setIfInBounds_toArray, List.set_cons_zero, List.set_cons_succ]
        refine Gz.take (i := 4) (oi := { dst := some 22, op := Op.fieldAddr 51 (Operand.tmp 21) 1, type := 0, pos := _, after := _, guard := none }) (v := ?_) rfl (by kernel_rfl) (by kernel_rfl) (by kernel_rfl) (by kernel_rfl) (fun _ _ _ h => h) (Or.inl ⟨by rfl, ?hy4⟩) (Kept.refl _ _).drew ?_
        case hy4 => (intro W hSw; (try dsimp only at hSw); go_simp; try with_reducible rfl)
        try simp only [Act.put, List.setIfInBounds_toArray, List.set_cons_zero, List.set_cons_succ]
        refine Gz.take (i := 5) (oi := { dst := some 23, op := Op.load 25 (Operand.tmp 22), type := 25, pos := _, after := _, guard := none }) (v := _) rfl (by kernel_rfl) (by kernel_rfl) (by kernel_rfl) (by kernel_rfl) (fun _ _ _ h => h) (yieldsIf_load_mid (by rfl) _ _ rfl (b) (off + k * 33 + 1) rfl (cells x.h) _ (fun W hW => range_kept HR6.out hW hb6 trivial) Try.underlying25 rfl (ihx)) (Kept.refl _ _).drew ?_
        try simp only [Act.put, List.setIfInBounds_toArray, List.set_cons_zero, List.set_cons_succ]
        refine Gz.take (i := 6) (oi := { dst := some 24, op := Op.binOp BinOp.neq 25 (Operand.tmp 18) (Operand.tmp 23) 25, type := 4, pos := _, after := _, guard := none }) (v := ?_) rfl (by kernel_rfl) (by kernel_rfl) (by kernel_rfl) (by kernel_rfl) (fun _ _ _ h => h) (Or.inl ⟨by rfl, ?hy6⟩) (Kept.refl _ _).drew ?_
        case hy6 => (intro W hSw; (try dsimp only at hSw); go_simp; try with_reducible rfl)
        try simp only [Act.put, List.setIfInBounds_toArray, List.set_cons_zero, List.set_cons_succ]
        refine Gz.done (by kernel_rfl) ?_ _
        go_wp2_with fail
        go_roundw
        case rel =>
          refine ⟨k + 1, by omega, by go_num, ?_, fun j hj hj2 => ?_, KW.out⟩
          · rw [HN2.out]; exact AR6.out.kept (Kept.refl (fun _ => True) w6).drew trivial
          · by_cases e : j = k
            · subst e; exact HOK.out HE.out hj2
            · exact HL.out j (by omega) hj2
        case measure => simp [intOf]; omega
      · have hq := fun w0 => eq_no LQ.out.1 LQ.out.2 (fun e => he e.symm) w0
        have HE : Hid (x.h ≠ hd') := he
        clear he
        go_wp2_with fail
        refine Gz.begin (fun W => Kept (fun _ => True) w6 W) (fun _ => false) (by kernel_rfl) ?_
        refine Gz.take (i := 0) (oi := { dst := some 18, op := Op.load 25 (Operand.tmp 3), type := 25, pos := _, after := _, guard := none }) (v := _) rfl (by kernel_rfl) (by kernel_rfl) (by kernel_rfl) (by kernel_rfl) (fun _ _ _ h => h) (yieldsIf_load_mid (by rfl) _ _ rfl (B) (0) rfl (cells hd') _ (fun W hW => (AR6.out.kept hW trivial).range) Try.underlying25 rfl (ih2)) (Kept.refl _ _).drew ?_
        try simp only [Act.put, List.setIfInBounds_toArray, List.set_cons_zero, List.set_cons_succ]
        refine Gz.take (i := 1) (oi := { dst := some 19, op := Op.move (Operand.tmp 0), type := 38, pos := _, after := _, guard := none }) (v := ?_) rfl (by kernel_rfl) (by kernel_rfl) (by kernel_rfl) (by kernel_rfl) (fun _ _ _ h => h) (Or.inl ⟨by rfl, ?hy1⟩) (Kept.refl _ _).drew ?_
        case hy1 => (intro W hSw; (try dsimp only at hSw); go_simp; try with_reducible rfl)
        try simp only [Act.put, List.setIfInBounds_toArray, List.set_cons_zero, List.set_cons_succ]
        refine Gz.take (i := 2) (oi := { dst := some 20, op := Op.move (Operand.tmp 4), type := 3, pos := _, after := _, guard := none }) (v := ?_) rfl (by kernel_rfl) (by kernel_rfl) (by kernel_rfl) (by kernel_rfl) (fun _ _ _ h => h) (Or.inl ⟨by rfl, ?hy2⟩) (Kept.refl _ _).drew ?_
        case hy2 => (intro W hSw; (try dsimp only at hSw); go_simp; try with_reducible rfl)
        try simp only [Act.put, List.setIfInBounds_toArray, List.set_cons_zero, List.set_cons_succ]
        refine Gz.take (i := 3) (oi := { dst := some 21, op := Op.indexAddr 38 (Operand.tmp 19) (Operand.tmp 20), type := 0, pos := _, after := _, guard := none }) (v := ?_) rfl (by kernel_rfl) (by kernel_rfl) (by kernel_rfl) (by kernel_rfl) (fun _ _ _ h => h) (Or.inl ⟨by rfl, ?hy3⟩) (Kept.refl _ _).drew ?_
        case hy3 => (intro W hSw; (try dsimp only at hSw); go_simp; try with_reducible rfl)
        try simp only [Act.put, List.setIfInBounds_toArray, List.set_cons_zero, List.set_cons_succ]
        refine Gz.take (i := 4) (oi := { dst := some 22, op := Op.fieldAddr 51 (Operand.tmp 21) 1, type := 0, pos := _, after := _, guard := none }) (v := ?_) rfl (by kernel_rfl) (by kernel_rfl) (by kernel_rfl) (by kernel_rfl) (fun _ _ _ h => h) (Or.inl ⟨by rfl, ?hy4⟩) (Kept.refl _ _).drew ?_
        case hy4 => (intro W hSw; (try dsimp only at hSw); go_simp; try with_reducible rfl)
        try simp only [Act.put, List.setIfInBounds_toArray, List.set_cons_zero, List.set_cons_succ]
        refine Gz.take (i := 5) (oi := { dst := some 23, op := Op.load 25 (Operand.tmp 22), type := 25, pos := _, after := _, guard := none }) (v := _) rfl (by kernel_rfl) (by kernel_rfl) (by kernel_rfl) (by kernel_rfl) (fun _ _ _ h => h) (yieldsIf_load_mid (by rfl) _ _ rfl (b) (off + k * 33 + 1) rfl (cells x.h) _ (fun W hW => range_kept HR6.out hW hb6 trivial) Try.underlying25 rfl (ihx)) (Kept.refl _ _).drew ?_
        try simp only [Act.put, List.setIfInBounds_toArray, List.set_cons_zero, List.set_cons_succ]
        refine Gz.take (i := 6) (oi := { dst := some 24, op := Op.binOp BinOp.neq 25 (Operand.tmp 18) (Operand.tmp 23) 25, type := 4, pos := _, after := _, guard := none }) (v := ?_) rfl (by kernel_rfl) (by kernel_rfl) (by kernel_rfl) (by kernel_rfl) (fun _ _ _ h => h) (Or.inl ⟨by rfl, ?hy6⟩) (Kept.refl _ _).drew ?_
        case hy6 => (intro W hSw; (try dsimp only at hSw); go_simp; try with_reducible rfl)
        try simp only [Act.put, List.setIfInBounds_toArray, List.set_cons_zero, List.set_cons_succ]
        refine Gz.done (by kernel_rfl) ?_ _
        go_wp2_with fail
        go_ret
        exact ⟨k, rfl, ⟨by omega, HL.out, HNO.out HE.out⟩, KW.out⟩
    · have i1 : ¬ (k : Int) < (xs.length : Int) := by omega
      have hke : k = xs.length := by omega
      subst hke
      go_wp2
      go_ret
      exact ⟨xs.length, rfl, ⟨Nat.le_refl _, HL.out, fun h => absurd h (by omega)⟩, kr⟩

end Go.Proofs.Ytflleblcliobdaa

namespace Go.Proofs.Ytflleblcliobdaa
open Go.RowKit

set_option maxRecDepth 100000 in
set_option maxHeartbeats 2000000 in
theorem out_any {w : World} {ao : Option Addr} {cap : Nat} {xs : List Li} (h : Lv w ao xs) (hn : xs.length ≤ 900) :
    Calls Try.prog 20 #[.slice ao xs.length cap] w fun e w' => ∃ a' c', e = .returned (.slice a' xs.length c') ∧ Lo 51 w' w.heap.size (.slice a' xs.length c') xs ∧ Kept (fun _ => True) w w' := by
  have HV : Hid (Lv w ao xs) := h
  clear h
  go_enter Try.func20, Try.ntmps20
  go_wp2
  go_loopw [3, 4] (fun v t wr => ∃ (k : Nat) (a' : Option Addr) (c' : Nat), k ≤ xs.length ∧ t = .int .i64 k ∧ v = .slice a' k c' ∧ Lo 51 wr w.heap.size (.slice a' k c') (xs.take k) ∧ Kept (fun _ => True) w wr) (fun _ t _ => xs.length - (intOf t).toNat)
  case atStart => exact ⟨0, none, 0, Nat.zero_le _, rfl, rfl, Lo.nil _ _ _, Kept.refl _ _⟩
  case round =>
    obtain ⟨k, a', c', hk, rfl, rfl, ho, kr⟩ := hrel
    by_cases hlt : k < xs.length
    · obtain ⟨b, off, rfl, hb, hc⟩ := HV.out.row (by omega)
      have HR : Hid (wr.rangeAt b (off + k * 33) (lcell xs[k])) := range_kept (hc k hlt) kr hb trivial
      have i0 : (0 : Int) ≤ (k : Int) := by omega
      have i1 : (k : Int) < (xs.length : Int) := by omega
      have HM : Hid (xs.take (k + 1) = xs.take k ++ [xs[k]]) := List.take_succ_eq_append_getElem hlt
      have lm : (xs.take k).length = k := by rw [List.length_take, Nat.min_eq_left hk]
      have HO : Hid (Lo 51 wr w.heap.size (.slice a' k c') (xs.take k)) := ho
      have hbo : (Value.slice a' k c').ownBlock ≠ some b := fun e => by have := ho.ge e; omega
      have HM1 : Hid ((xs.take k).length + [xs[k]].length ≤ 1000) := by
        show _ ≤ _
        rw [lm, List.length_singleton]; omega
      have HM2 : Hid ((xs.take k).length + 1 = k + 1) := by rw [lm]; rfl
      have hbr : b < wr.heap.size := Nat.lt_of_lt_of_le hb kr.size
      have KR : Hid (Kept (fun _ => True) w wr) := kr
      have lx := xs[k].len
      clear hc ho lm kr
      generalize xs[k] = x at *
      have ihx : (Try.prog.info? 25).map (·.size) = some (cells x.h).length := by rw [cells_length, lx]; exact arr32.size
      have ct : ∀ W, Kept (fun y => (Value.slice a' k c').ownBlock ≠ some y) wr W → W.cell? ⟨b, off + k * 33, none⟩ = some (.string ⟨x.t.toArray⟩) := fun W hW => range_text (range_kept HR.out hW hbr hbo)
      have HZ : Hid (w.heap.size ≤ (wr.drew.alloc (.cells (lcell x).toArray 51)).heap.size) := Nat.le_trans KR.out.size ((Kept.refl (fun _ => True) wr).drew.alloc _).size
      clear lx
      go_wp2
      refine Gz.begin (fun W => Kept (fun y => (Value.slice a' k c').ownBlock ≠ some y) wr W) (fun _ => false) (by kernel_rfl) ?_
      refine Gz.take (i := 0) (oi := { dst := some 11, op := Op.move (Operand.tmp 3), type := 38, pos := _, after := _, guard := none }) (v := ?_) rfl (by kernel_rfl) (by kernel_rfl) (by kernel_rfl) (by kernel_rfl) (fun _ _ _ h => h) (Or.inl ⟨by rfl, ?hy0⟩) (Kept.refl _ _).drew ?_
      case hy0 => (intro W hSw; (try dsimp only at hSw); go_simp; try with_reducible rfl)
      try simp only [Act.put, List.setIfInBounds_toArray, List.set_cons_zero, List.set_cons_succ]
      refine Gz.take (i := 1) (oi := { dst := some 12, op := Op.move (Operand.tmp 0), type := 22, pos := _, after := _, guard := none }) (v := ?_) rfl (by kernel_rfl) (by kernel_rfl) (by kernel_rfl) (by kernel_rfl) (fun _ _ _ h => h) (Or.inl ⟨by rfl, ?hy1⟩) (Kept.refl _ _).drew ?_
      case hy1 => (intro W hSw; (try dsimp only at hSw); go_simp; try with_reducible rfl)
      try simp only [Act.put, List.setIfInBounds_toArray, List.set_cons_zero, List.set_cons_succ]
      refine Gz.take (i := 2) (oi := { dst := some 13, op := Op.move (Operand.tmp 4), type := 3, pos := _, after := _, guard := none }) (v := ?_) rfl (by kernel_rfl) (by kernel_rfl) (by kernel_rfl) (by kernel_rfl) (fun _ _ _ h => h) (Or.inl ⟨by rfl, ?hy2⟩) (Kept.refl _ _).drew ?_
      case hy2 => (intro W hSw; (try dsimp only at hSw); go_simp; try with_reducible rfl)
      try simp only [Act.put, List.setIfInBounds_toArray, List.set_cons_zero, List.set_cons_succ]
      refine Gz.take (i := 3) (oi := { dst := some 14, op := Op.indexAddr 22 (Operand.tmp 12) (Operand.tmp 13), type := 0, pos := _, after := _, guard := none }) (v := ?_) rfl (by kernel_rfl) (by kernel_rfl) (by kernel_rfl) (by kernel_rfl) (fun _ _ _ h => h) (Or.inl ⟨by rfl, ?hy3⟩) (Kept.refl _ _).drew ?_
      case hy3 => (intro W hSw; (try dsimp only at hSw); go_simp; try with_reducible rfl)
      try simp only [Act.put, List.setIfInBounds_toArray, List.set_cons_zero, List.set_cons_succ]
      refine Gz.take (i := 4) (oi := { dst := some 15, op := Op.fieldAddr 27 (Operand.tmp 14) 0, type := 0, pos := _, after := _, guard := none }) (v := ?_) rfl (by kernel_rfl) (by kernel_rfl) (by kernel_rfl) (by kernel_rfl) (fun _ _ _ h => h) (Or.inl ⟨by rfl, ?hy4⟩) (Kept.refl _ _).drew ?_
      case hy4 => (intro W hSw; (try dsimp only at hSw); go_simp; try with_reducible rfl)
      try simp only [Act.put, List.setIfInBounds_toArray, List.set_cons_zero, List.set_cons_succ]
      refine Gz.take (i := 5) (oi := { dst := some 16, op := Op.load 9 (Operand.tmp 15), type := 9, pos := _, after := _, guard := none }) (v := ?_) rfl (by kernel_rfl) (by kernel_rfl) (by kernel_rfl) (by kernel_rfl) (fun _ _ _ h => h) (Or.inl ⟨by rfl, ?hy5⟩) (Kept.refl _ _).drew ?_
      case hy5 => (intro W hSw; (try dsimp only at hSw); go_simp; try with_reducible rfl)
      try simp only [Act.put, List.setIfInBounds_toArray, List.set_cons_zero, List.set_cons_succ]
      refine Gz.take (i := 6) (oi := { dst := some 17, op := Op.move (Operand.tmp 0), type := 22, pos := _, after := _, guard := none }) (v := ?_) rfl (by kernel_rfl) (by kernel_rfl) (by kernel_rfl) (by kernel_rfl) (fun _ _ _ h => h) (Or.inl ⟨by rfl, ?hy6⟩) (Kept.refl _ _).drew ?_
      case hy6 => (intro W hSw; (try dsimp only at hSw); go_simp; try with_reducible rfl)
      try simp only [Act.put, List.setIfInBounds_toArray, List.set_cons_zero, List.set_cons_succ]
      refine Gz.take (i := 7) (oi := { dst := some 18, op := Op.move (Operand.tmp 4), type := 3, pos := _, after := _, guard := none }) (v := ?_) rfl (by kernel_rfl) (by kernel_rfl) (by kernel_rfl) (by kernel_rfl) (fun _ _ _ h => h) (Or.inl ⟨by rfl, ?hy7⟩) (Kept.refl _ _).drew ?_
      case hy7 => (intro W hSw; (try dsimp only at hSw); go_simp; try with_reducible rfl)
      try simp only [Act.put, List.setIfInBounds_toArray, List.set_cons_zero, List.set_cons_succ]
      refine Gz.take (i := 8) (oi := { dst := some 19, op := Op.indexAddr 22 (Operand.tmp 17) (Operand.tmp 18), type := 0, pos := _, after := _, guard := none }) (v := ?_) rfl (by kernel_rfl) (by kernel_rfl) (by kernel_rfl) (by kernel_rfl) (fun _ _ _ h => h) (Or.inl ⟨by rfl, ?hy8⟩) (Kept.refl _ _).drew ?_
      case hy8 => (intro W hSw; (try dsimp only at hSw); go_simp; try with_reducible rfl)
      try simp only [Act.put, List.setIfInBounds_toArray, List.set_cons_zero, List.set_cons_succ]
      refine Gz.take (i := 9) (oi := { dst := some 20, op := Op.fieldAddr 27 (Operand.tmp 19) 1, type := 0, pos := _, after := _, guard := none }) (v := ?_) rfl (by kernel_rfl) (by kernel_rfl) (by kernel_rfl) (by kernel_rfl) (fun _ _ _ h => h) (Or.inl ⟨by rfl, ?hy9⟩) (Kept.refl _ _).drew ?_
      case hy9 => (intro W hSw; (try dsimp only at hSw); go_simp; try with_reducible rfl)
      try simp only [Act.put, List.setIfInBounds_toArray, List.set_cons_zero, List.set_cons_succ]
      refine Gz.take (i := 10) (oi := { dst := some 21, op := Op.load 25 (Operand.tmp 20), type := 25, pos := _, after := _, guard := none }) (v := _) rfl (by kernel_rfl) (by kernel_rfl) (by kernel_rfl) (by kernel_rfl) (fun _ _ _ h => h) (yieldsIf_load_mid (by rfl) _ _ rfl (b) (off + k * 33 + 1) rfl (cells x.h) _ (fun W hW => range_head (range_kept HR.out hW hbr hbo)) Try.underlying25 rfl (ihx)) (Kept.refl _ _).drew ?_
      try simp only [Act.put, List.setIfInBounds_toArray, List.set_cons_zero, List.set_cons_succ]
      refine Gz.take (i := 11) (oi := { dst := some 22, op := Op.build 51 #[(0, Operand.tmp 16), (1, Operand.tmp 21)], type := 51, pos := _, after := _, guard := none }) (v := _) rfl (by kernel_rfl) (by kernel_rfl) (by kernel_rfl) (by kernel_rfl) (fun _ _ _ h => h) (yieldsIf_buildL (by rfl) linkR x (.tmp 16) (.tmp 21) rfl rfl rfl) (Kept.refl _ _).drew ?_
      try simp only [Act.put, List.setIfInBounds_toArray, List.set_cons_zero, List.set_cons_succ]
      refine Gz.one (i := 12) (o := { dst := some 23, op := Op.buildSlice 38 1 #[(0, Operand.tmp 22)], type := 38, pos := _, after := _, guard := none }) (by kernel_rfl) rfl (fun K hK => ?_)
      refine step_sliceL linkR x rfl ?_
      refine hK.out _ _ (fun _ => (Kept.refl _ _).drew.alloc _) ?_
      clear hK K
      try simp only [Act.put, List.setIfInBounds_toArray, List.set_cons_zero, List.set_cons_succ]
      refine Gz.one (i := 13) (o := { dst := some 24, op := Op.call { callee := Callee.builtin Builtin.append, args := #[Operand.tmp 11, Operand.tmp 23], argTypes := #[38, 38] }, type := 38, pos := _, after := _, guard := none }) (by kernel_rfl) rfl (fun K hK => ?_)
      refine step_append_links linkR rfl (.tmp 11) (.tmp 23) rfl w.heap.size (.slice a' k c') (xs.take k) rfl ((HO.out.all (Kept.refl _ _).drew).all ((Kept.refl _ _).alloc _)) HZ.out (some ⟨wr.heap.size, 0, none⟩) 1 1 [x] rfl rfl (by simp) (lv_one (heap_alloc_new wr.drew _)) HM1.out (k + 1) HM2.out ?_
      intro a8 c8 w8 ho8 hg8 at8
      have k8 : Kept (fun y => (Value.slice a' k c').ownBlock ≠ some y) wr w8 := ((Kept.refl _ _).drew.alloc _).grown hg8 (fun _ _ e h => h e)
      have HO8 : Hid (Lo 51 w8 w.heap.size (.slice a8 (k + 1) c8) (xs.take k ++ [x])) := ho8
      clear ho8 hg8 at8
      refine hK.out _ _ (fun _ => k8) ?_
      clear hK K
      try simp only [Act.put, List.setIfInBounds_toArray, List.set_cons_zero, List.set_cons_succ]
      refine Gz.take (i := 14) (oi := { dst := some 3, op := Op.assign (Operand.tmp 24), type := 38, pos := _, after := _, guard := none }) (v := ?_) rfl (by kernel_rfl) (by kernel_rfl) (by kernel_rfl) (by kernel_rfl) (fun _ _ _ h => h) (Or.inl ⟨by rfl, ?hy14⟩) k8 ?_
      case hy14 => (intro W hSw; (try dsimp only at hSw); go_simp; try with_reducible rfl)
      try simp only [Act.put, List.setIfInBounds_toArray, List.set_cons_zero, List.set_cons_succ]
      refine Gz.done (by kernel_rfl) ?_ _
      go_wp2_with fail
      go_roundw
      case rel =>
        refine ⟨k + 1, a8, c8, by omega, by go_num, rfl, by rw [HM.out]; exact HO8.out, ?_⟩
        exact KR.out.then k8 (fun i hi _ e => by have := HO.out.ge e; omega)
      case measure => simp [intOf]; omega
    · have i1 : ¬ (k : Int) < (xs.length : Int) := by omega
      have hke : k = xs.length := by omega
      subst hke
      rw [List.take_length] at ho
      have HW : Hid (Lo 51 wr w.heap.size (.slice a' xs.length c') xs) := ho
      clear ho
      go_wp2
      go_ret
      exact ⟨a', c', rfl, HW.out, kr⟩

end Go.Proofs.Ytflleblcliobdaa
