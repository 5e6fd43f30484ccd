/-
  Texts of the proofs, 46 of 52.
-/
import Derived.Test.YtmcaoimgmgjjiaaWAE
import Derived.Test.YtmcaoimgmgjjiaaWM
import Derived.Test.YtmcaoimgmgjjiaaWO
import Derived.Test.YtmcaoimgmgjjiaaWAK
import Derived.Test.YtmcaoimgmgjjiaaWI
namespace Go.Proofs.Ytmcaoimgmgjjiaa
open Go.RowKit

set_option maxRecDepth 100000 in
set_option maxHeartbeats 2000000 in
theorem rcheck_any {w : World} {ao : Option Addr} {cap : Nat} {xs : List Li} (h : Lv w ao xs) (hn : xs.length ≤ 3000000) (hs : ∀ x ∈ xs, x.t.length ≤ 1500000) :
    Calls Try.prog 68 #[.slice ao xs.length cap] w fun e w' => EChk xs w e w' := by
  have HV : Hid (Lv w ao xs) := h
  have HS : Hid (∀ x ∈ xs, x.t.length ≤ 1500000) := hs
  have hgd := guard32
  clear h hs
  go_enter Try.func68, Try.ntmps68
  go_wp2_with ((with_reducible refine w_alloc (d := some 3) arr32 ?_); intro w2 a3 k2 s2)
  have A3 : Ar w2 w.heap.size 78 (cells zero32) := a3
  obtain ⟨B, hB⟩ : ∃ B, B = w.heap.size := ⟨_, rfl⟩
  rw [← hB] at A3 ⊢
  have HB : Hid (B = w.heap.size) := hB
  have HA : Hid (Ar w2 B 78 (cells zero32)) := A3
  have K2 : Hid (Kept (fun _ => True) w w2) := k2
  clear hB a3 A3 k2 s2
  go_loopw [4] (fun t wr => ∃ k : Nat, k ≤ xs.length ∧ t = .int .i64 k ∧ Ar wr B 78 (cells (hAt zero32 (txs xs) k)) ∧ (∀ j (_ : j < k) (hj : j < xs.length), okL xs j hj) ∧ Kept (fun _ => True) w wr) (fun t _ => xs.length - (intOf t).toNat)
  case atStart => exact ⟨0, Nat.zero_le _, rfl, HA.out, fun j h => by omega, K2.out⟩
  case round =>
    obtain ⟨k, hk, rfl, ar, hall, kr⟩ := hrel
    have HL : Hid (∀ j (_ : j < k) (hj : j < xs.length), okL xs j hj) := hall
    have AR : Hid (Ar wr B 78 (cells (hAt zero32 (txs xs) k))) := ar
    clear hall ar
    by_cases hlt : k < xs.length
    · obtain ⟨b, off, rfl, hb, hc⟩ := HV.out.row (by omega)
      have hr := range_kept (hc k hlt) kr hb trivial
      have i0 : (0 : Int) ≤ (k : Int) := by omega
      have i1 : (k : Int) < (xs.length : Int) := by omega
      have hN : hAt zero32 (txs xs) (k + 1) = nxt (hAt zero32 (txs xs) k) xs[k].t := by
        rw [hAt_succ zero32 (txs xs) k (by rw [txs_length]; exact hlt), txs_get xs k hlt]
      have HO : Hid (okL xs k hlt ↔ xs[k].h = hAt zero32 (txs xs) (k + 1)) := Iff.rfl
      have lt : (xs[k].t).length ≤ 1500000 := HS.out _ (List.getElem_mem _)
      have lh : (hAt zero32 (txs xs) k).length = 32 := hAt_len zero32_len _ k
      have lx := xs[k].len
      generalize hAt zero32 (txs xs) k = hd at *
      generalize hn2 : hAt zero32 (txs xs) (k + 1) = hd' at *
      have HN2 : Hid (hAt zero32 (txs xs) (k + 1) = hd') := hn2
      have cn := fun (w0 : World) => rnext_any (w := w0) hd xs[k].t lh lt
      have ln := nxt_len hd xs[k].t
      rw [← hN] at cn ln
      have HR : Hid (wr.rangeAt b (off + k * 33) (lcell xs[k])) := hr
      have HOK : Hid (xs[k].h = hd' → ∀ h : k < xs.length, okL xs k h) := fun e _ => HO.out.2 e
      have HNO : Hid (xs[k].h ≠ hd' → ∀ h : k < xs.length, ¬ okL xs k h) := fun e _ q => e (HO.out.1 q)
      clear hc hn2 hN hr HO
      generalize xs[k] = x at *
      have l32 : (cells hd).length = 32 := by rw [cells_length, lh]
      have ln2 : (cells hd').length = 32 := by rw [cells_length, ln]
      have lx2 : (cells x.h).length = 32 := by rw [cells_length, lx]
      have on2 := cells_one hd'
      have ih : (Try.prog.info? 78).map (·.size) = some (cells hd).length := by rw [l32]; exact arr32.size
      have ih2 : (Try.prog.info? 78).map (·.size) = some (cells hd').length := by rw [ln2]; exact arr32.size
      have ihx : (Try.prog.info? 78).map (·.size) = some (cells x.h).length := by rw [lx2]; exact arr32.size
      have hbr : b < wr.heap.size := Nat.lt_of_lt_of_le hb kr.size
      have hbB : b ≠ B := by have := HB.out; omega
      have ct : ∀ W, Kept (fun _ => True) wr W → W.cell? ⟨b, off + k * 33, none⟩ = some (.string ⟨x.t.toArray⟩) := fun W hW => range_text (range_kept HR.out hW hbr trivial)
      have KR : Hid (Kept (fun _ => True) w wr) := kr
      have LQ : Hid (hd'.length = 32 ∧ x.h.length = 32) := ⟨ln, lx⟩
      clear kr lt lh ln lx
      go_wp2
      refine Gz.begin (fun W => Kept (fun _ => True) wr W) (fun i => decide (i = 7)) (by kernel_rfl) ?_
      refine Gz.tk (i := 0) (oi := ⟨some 11, .load 78 (.tmp 3), 78, _, _, none⟩) (v := _) rfl (by kernel_rfl) (fun _ _ _ h => h) (yieldsIf_load_mid (by rfl) _ _ rfl (B) (0) rfl (cells hd) _ (fun W hW => (AR.out.kept hW trivial).range) Try.underlying78 rfl (ih)) (Kept.refl _ _).drew ?_
      try simp only [Act.put, lyA, ly0, ly1]
      refine Gz.tk (i := 1) (oi := ⟨some 12, .move (.tmp 0), 65, _, _, none⟩) (v := ?_) rfl (by kernel_rfl) (fun _ _ _ h => h) (Or.inl ⟨by rfl, ?hy1⟩) (Kept.refl _ _).drew ?_
      case hy1 => (intro W hS; (try dsimp only at hS); go_simp; try with_reducible rfl)
      try simp only [Act.put, lyA, ly0, ly1]
      refine Gz.tk (i := 2) (oi := ⟨some 13, .move (.tmp 4), 3, _, _, none⟩) (v := ?_) rfl (by kernel_rfl) (fun _ _ _ h => h) (Or.inl ⟨by rfl, ?hy2⟩) (Kept.refl _ _).drew ?_
      case hy2 => (intro W hS; (try dsimp only at hS); go_simp; try with_reducible rfl)
      try simp only [Act.put, lyA, ly0, ly1]
      refine Gz.tk (i := 3) (oi := ⟨some 14, .indexAddr 65 (.tmp 12) (.tmp 13), 0, _, _, none⟩) (v := ?_) rfl (by kernel_rfl) (fun _ _ _ h => h) (Or.inl ⟨by rfl, ?hy3⟩) (Kept.refl _ _).drew ?_
      case hy3 => (intro W hS; (try dsimp only at hS); go_simp; try with_reducible rfl)
      try simp only [Act.put, lyA, ly0, ly1]
      refine Gz.tk (i := 4) (oi := ⟨some 15, .fieldAddr 80 (.tmp 14) 0, 0, _, _, none⟩) (v := ?_) rfl (by kernel_rfl) (fun _ _ _ h => h) (Or.inl ⟨by rfl, ?hy4⟩) (Kept.refl _ _).drew ?_
      case hy4 => (intro W hS; (try dsimp only at hS); go_simp; try with_reducible rfl)
      try simp only [Act.put, lyA, ly0, ly1]
      refine Gz.tk (i := 5) (oi := ⟨some 16, .load 9 (.tmp 15), 9, _, _, none⟩) (v := ?_) rfl (by kernel_rfl) (fun _ _ _ h => h) (Or.inl ⟨by rfl, ?hy5⟩) (Kept.refl _ _).drew ?_
      case hy5 => (intro W hS; (try dsimp only at hS); go_simp; try with_reducible rfl)
      try simp only [Act.put, lyA, ly0, ly1]
      refine Gz.one (i := 6) (o := ⟨some 17, .call { callee := .value (.func 56), args := #[.tmp 11, .tmp 16], argTypes := #[78, 9] }, 78, _, _, none⟩) (by kernel_rfl) rfl (fun K hK => ?_)
      go_simp
      with_reducible refine Calls.mono (cn _) ?_
      rintro e w5 ⟨rfl, k5⟩
      have s5 : Kept (fun _ => True) wr w5 := (Kept.refl _ _).drew.trans k5
      try go_wp2_with fail
      refine hK.out _ _ (fun _ => s5) ?_
      clear hK K
      try simp only [Act.put, lyA, ly0, ly1]
      refine Gz.one (i := 7) (o := ⟨none, .store 78 (.tmp 3) (.tmp 17), 0, _, _, none⟩) (by kernel_rfl) rfl (fun K hK => ?_)
      refine step_storeH (b := B) (xs := cells hd') (old := cells hd) rfl rfl (AR.out.kept s5 trivial) l32 ln2 on2 ?_
      intro w6 a6 k6 s6
      refine hK.out _ _ (fun hEarly => by cases hEarly) ?_
      clear hK K
      try simp only [Act.put, lyA, ly0, ly1]
      refine Gz.done (by kernel_rfl) ?_ _
      have K6 : Hid (Kept (· ≠ B) wr w6) := (s5.mono (fun _ _ _ => trivial)).trans k6
      have AR6 : Hid (Ar w6 B 78 (cells hd')) := a6
      have HR6 : Hid (w6.rangeAt b (off + k * 33 + 1) (cells x.h)) := range_head (range_kept HR.out K6.out hbr hbB)
      have hb6 : b < w6.heap.size := Nat.lt_of_lt_of_le hbr K6.out.size
      have KW : Hid (Kept (fun _ => True) w w6.drew) := by
        have hb2 := HB.out
        exact (KR.out.then K6.out (fun i hi _ => by omega)).drew
      clear a6 k6 s6 s5 k5 ct cn AR HR
      by_cases he : x.h = hd'
      · have hq := fun w0 => eq_yes LQ.out.1 he.symm w0
        have HE : Hid (x.h = hd') := he
        clear he
        go_wp2_with fail
        refine Gz.begin (fun W => Kept (fun _ => True) w6 W) (fun _ => false) (by kernel_rfl) ?_
        refine Gz.tk (i := 0) (oi := ⟨some 18, .load 78 (.tmp 3), 78, _, _, none⟩) (v := _) rfl (by kernel_rfl) (fun _ _ _ h => h) (yieldsIf_load_mid (by rfl) _ _ rfl (B) (0) rfl (cells hd') _ (fun W hW => (AR6.out.kept hW trivial).range) Try.underlying78 rfl (ih2)) (Kept.refl _ _).drew ?_
        try simp only [Act.put, lyA, ly0, ly1]
        refine Gz.tk (i := 1) (oi := ⟨some 19, .move (.tmp 0), 65, _, _, none⟩) (v := ?_) rfl (by kernel_rfl) (fun _ _ _ h => h) (Or.inl ⟨by rfl, ?hy1⟩) (Kept.refl _ _).drew ?_
        case hy1 => (intro W hS; (try dsimp only at hS); go_simp; try with_reducible rfl)
        try simp only [Act.put, lyA, ly0, ly1]
        refine Gz.tk (i := 2) (oi := ⟨some 20, .move (.tmp 4), 3, _, _, none⟩) (v := ?_) rfl (by kernel_rfl) (fun _ _ _ h => h) (Or.inl ⟨by rfl, ?hy2⟩) (Kept.refl _ _).drew ?_
        case hy2 => (intro W hS; (try dsimp only at hS); go_simp; try with_reducible rfl)
        try simp only [Act.put, lyA, ly0, ly1]
        refine Gz.tk (i := 3) (oi := ⟨some 21, .indexAddr 65 (.tmp 19) (.tmp 20), 0, _, _, none⟩) (v := ?_) rfl (by kernel_rfl) (fun _ _ _ h => h) (Or.inl ⟨by rfl, ?hy3⟩) (Kept.refl _ _).drew ?_
        case hy3 => (intro W hS; (try dsimp only at hS); go_simp; try with_reducible rfl)
        try simp only [Act.put, lyA, ly0, ly1]
        refine Gz.tk (i := 4) (oi := ⟨some 22, .fieldAddr 80 (.tmp 21) 1, 0, _, _, none⟩) (v := ?_) rfl (by kernel_rfl) (fun _ _ _ h => h) (Or.inl ⟨by rfl, ?hy4⟩) (Kept.refl _ _).drew ?_
        case hy4 => (intro W hS; (try dsimp only at hS); go_simp; try with_reducible rfl)
        try simp only [Act.put, lyA, ly0, ly1]
        refine Gz.tk (i := 5) (oi := ⟨some 23, .load 78 (.tmp 22), 78, _, _, none⟩) (v := _) rfl (by kernel_rfl) (fun _ _ _ h => h) (yieldsIf_load_mid (by rfl) _ _ rfl (b) (off + k * 33 + 1) rfl (cells x.h) _ (fun W hW => range_kept HR6.out hW hb6 trivial) Try.underlying78 rfl (ihx)) (Kept.refl _ _).drew ?_
        try simp only [Act.put, lyA, ly0, ly1]
        refine Gz.tk (i := 6) (oi := ⟨some 24, .binOp BinOp.neq 78 (.tmp 18) (.tmp 23) 78, 4, _, _, none⟩) (v := ?_) rfl (by kernel_rfl) (fun _ _ _ h => h) (Or.inl ⟨by rfl, ?hy6⟩) (Kept.refl _ _).drew ?_
        case hy6 => (intro W hS; (try dsimp only at hS); go_simp; try with_reducible rfl)
        try simp only [Act.put, lyA, ly0, ly1]
        refine Gz.done (by kernel_rfl) ?_ _
        go_wp2_with fail
        go_roundw
        case rel =>
          refine ⟨k + 1, by omega, by go_num, ?_, fun j hj hj2 => ?_, KW.out⟩
          · rw [HN2.out]; exact AR6.out.kept (Kept.refl (fun _ => True) w6).drew trivial
          · by_cases e : j = k
            · subst e; exact HOK.out HE.out hj2
            · exact HL.out j (by omega) hj2
        case measure => simp [intOf]; omega
      · have hq := fun w0 => eq_no LQ.out.1 LQ.out.2 (fun e => he e.symm) w0
        have HE : Hid (x.h ≠ hd') := he
        clear he
        go_wp2_with fail
        refine Gz.begin (fun W => Kept (fun _ => True) w6 W) (fun _ => false) (by kernel_rfl) ?_
        refine Gz.tk (i := 0) (oi := ⟨some 18, .load 78 (.tmp 3), 78, _, _, none⟩) (v := _) rfl (by kernel_rfl) (fun _ _ _ h => h) (yieldsIf_load_mid (by rfl) _ _ rfl (B) (0) rfl (cells hd') _ (fun W hW => (AR6.out.kept hW trivial).range) Try.underlying78 rfl (ih2)) (Kept.refl _ _).drew ?_
        try simp only [Act.put, lyA, ly0, ly1]
        refine Gz.tk (i := 1) (oi := ⟨some 19, .move (.tmp 0), 65, _, _, none⟩) (v := ?_) rfl (by kernel_rfl) (fun _ _ _ h => h) (Or.inl ⟨by rfl, ?hy1⟩) (Kept.refl _ _).drew ?_
        case hy1 => (intro W hS; (try dsimp only at hS); go_simp; try with_reducible rfl)
        try simp only [Act.put, lyA, ly0, ly1]
        refine Gz.tk (i := 2) (oi := ⟨some 20, .move (.tmp 4), 3, _, _, none⟩) (v := ?_) rfl (by kernel_rfl) (fun _ _ _ h => h) (Or.inl ⟨by rfl, ?hy2⟩) (Kept.refl _ _).drew ?_
        case hy2 => (intro W hS; (try dsimp only at hS); go_simp; try with_reducible rfl)
        try simp only [Act.put, lyA, ly0, ly1]
        refine Gz.tk (i := 3) (oi := ⟨some 21, .indexAddr 65 (.tmp 19) (.tmp 20), 0, _, _, none⟩) (v := ?_) rfl (by kernel_rfl) (fun _ _ _ h => h) (Or.inl ⟨by rfl, ?hy3⟩) (Kept.refl _ _).drew ?_
        case hy3 => (intro W hS; (try dsimp only at hS); go_simp; try with_reducible rfl)
        try simp only [Act.put, lyA, ly0, ly1]
        refine Gz.tk (i := 4) (oi := ⟨some 22, .fieldAddr 80 (.tmp 21) 1, 0, _, _, none⟩) (v := ?_) rfl (by kernel_rfl) (fun _ _ _ h => h) (Or.inl ⟨by rfl, ?hy4⟩) (Kept.refl _ _).drew ?_
        case hy4 => (intro W hS; (try dsimp only at hS); go_simp; try with_reducible rfl)
        try simp only [Act.put, lyA, ly0, ly1]
        refine Gz.tk (i := 5) (oi := ⟨some 23, .load 78 (.tmp 22), 78, _, _, none⟩) (v := _) rfl (by kernel_rfl) (fun _ _ _ h => h) (yieldsIf_load_mid (by rfl) _ _ rfl (b) (off + k * 33 + 1) rfl (cells x.h) _ (fun W hW => range_kept HR6.out hW hb6 trivial) Try.underlying78 rfl (ihx)) (Kept.refl _ _).drew ?_
        try simp only [Act.put, lyA, ly0, ly1]
        refine Gz.tk (i := 6) (oi := ⟨some 24, .binOp BinOp.neq 78 (.tmp 18) (.tmp 23) 78, 4, _, _, none⟩) (v := ?_) rfl (by kernel_rfl) (fun _ _ _ h => h) (Or.inl ⟨by rfl, ?hy6⟩) (Kept.refl _ _).drew ?_
        case hy6 => (intro W hS; (try dsimp only at hS); go_simp; try with_reducible rfl)
        try simp only [Act.put, lyA, ly0, ly1]
        refine Gz.done (by kernel_rfl) ?_ _
        go_wp2_with fail
        go_ret
        exact ⟨k, rfl, ⟨by omega, HL.out, HNO.out HE.out⟩, KW.out⟩
    · have i1 : ¬ (k : Int) < (xs.length : Int) := by omega
      have hke : k = xs.length := by omega
      subst hke
      go_wp2
      go_ret
      exact ⟨xs.length, rfl, ⟨Nat.le_refl _, HL.out, fun h => absurd h (by omega)⟩, kr⟩

end Go.Proofs.Ytmcaoimgmgjjiaa

namespace Go.Proofs.Ytmcaoimgmgjjiaa
open Go.RowKit

theorem raw_ok {bs : List UInt8} {s : RS} {n : Nat} (h : (s.raw bs n).2.why = 0) : s.why = 0 ∧ (s.raw bs n).2.pos = s.pos + n ∧ (s.raw bs n).1.length = n := by
  unfold RS.raw at *
  by_cases hw : s.why = 0
  · rw [if_pos hw] at h ⊢
    by_cases hl : s.pos + n ≤ bs.length
    · rw [if_pos hl]
      refine ⟨hw, rfl, ?_⟩
      simp
      omega
    · rw [if_neg hl] at h
      simp at h
  · rw [if_neg hw] at h
    exact absurd h hw
theorem num_ok {bs : List UInt8} {s : RS} {n : Nat} (h : (s.num bs n).2.why = 0) : s.why = 0 ∧ (s.num bs n).2.pos = s.pos + n := by
  unfold RS.num at *
  by_cases hw : s.why = 0
  · rw [if_pos hw] at h ⊢
    by_cases hl : s.pos + n ≤ bs.length
    · rw [if_pos hl]
      exact ⟨hw, rfl⟩
    · rw [if_neg hl] at h
      simp at h
  · rw [if_neg hw] at h
    exact absurd h hw
theorem count_ok {bs : List UInt8} {s : RS} {m : Int} (h : (s.count bs m).2.why = 0) : s.why = 0 ∧ (s.count bs m).2.pos = s.pos + 4 := by
  unfold RS.count at *
  by_cases hm : max m 0 < ((s.num bs 4).1 : Int)
  · rw [if_pos hm] at h
    simp at h
  · rw [if_neg hm] at h ⊢
    exact num_ok h
theorem text_ok {bs : List UInt8} {s : RS} {m : Int} (h : (s.text bs m).2.why = 0) : s.why = 0 ∧ (s.text bs m).2.pos = s.pos + 4 + (s.text bs m).1.length := by
  unfold RS.text at *
  by_cases hl : (s.count bs m).2.left bs < ((s.count bs m).1 : Int)
  · rw [if_pos hl] at h
    simp at h
  · rw [if_neg hl] at h ⊢
    have h2 : (s.count bs m).2.why = 0 := h
    obtain ⟨h3, h4⟩ := count_ok h2
    refine ⟨h3, ?_⟩
    unfold RS.left leftOf at hl
    rw [if_pos h2] at hl
    simp only [List.length_take, List.length_drop]
    omega
theorem rdOne_ok {bs : List UInt8} {s : RS} (h : (rdOne bs s).2.why = 0) : (rdOne bs s).2.pos = s.pos + ((rdOne bs s).1.t.length + 36) := by
  obtain ⟨h1, h2, _⟩ := raw_ok (s := (s.text bs 4000).2) (n := 32) h
  obtain ⟨_, h4⟩ := text_ok h1
  show ((s.text bs 4000).2.raw bs 32).2.pos = s.pos + ((s.text bs 4000).1.length + 36)
  omega
theorem wgt_snoc (xs : List Li) (x : Li) : wgt (xs ++ [x]) = wgt xs + (x.t.length + 36) := by simp [wgt]
def plc (xs : List Li) : List Nat := (List.range xs.length).map fun k => 4 + wgt (xs.take k)
theorem plc_length (xs : List Li) : (plc xs).length = xs.length := by simp [plc]
theorem plc_snoc (xs : List Li) (x : Li) : plc (xs ++ [x]) = plc xs ++ [4 + wgt xs] := by
  unfold plc
  rw [List.length_append, List.length_singleton, List.range_succ, List.map_append]
  congr 1
  · refine List.map_congr_left fun k hk => ?_
    rw [List.take_append_of_le_length (by have := List.mem_range.1 hk; omega)]
  · simp
theorem plc_get (xs : List Li) (k : Nat) (hk : k < (plc xs).length) : (plc xs)[k] = (encL (xs.take k)).length := by
  rw [encL_len]
  simp [plc]
  omega
structure Sofar (bs : List UInt8) (m : Nat) (s : RS) (ys : List Li) : Prop where
  rd : rdN bs m s ys = rdAll bs
  pos : s.pos ≤ bs.length
  at_ : s.why = 0 → s.pos = 4 + wgt ys
  few : ys.length ≤ bs.length + 1
  short : ∀ y ∈ ys, y.t.length ≤ 4000
theorem wgt_ge : ∀ xs : List Li, xs.length ≤ wgt xs
  | [] => by simp [wgt]
  | x :: xs => by
    have := wgt_ge xs
    simp only [wgt, List.map_cons, List.sum_cons, List.length_cons] at this ⊢
    omega
theorem Sofar.start (bs : List UInt8) : Sofar bs ((⟨0, 0⟩ : RS).count bs 4096).1 ((⟨0, 0⟩ : RS).count bs 4096).2 [] := by
  refine ⟨rfl, RS.count_pos _ _ _ (Nat.zero_le _), fun h => ?_, by simp, by simp⟩
  have := (count_ok h).2
  rw [this]
  simp [wgt]
theorem Sofar.next {bs : List UInt8} {m : Nat} {s : RS} {ys : List Li} (h : Sofar bs (m + 1) s ys) (hw : s.why = 0) : Sofar bs m (rdOne bs s).2 (ys ++ [(rdOne bs s).1]) := by
  have h1 := h.rd
  rw [rdN, if_neg (by simpa using hw)] at h1
  have ha := h.at_ hw
  have hp := h.pos
  have hl := wgt_ge ys
  have ht := text_len bs s 4000
  refine ⟨h1, RS.raw_pos _ _ _ (RS.text_pos _ _ _ h.pos), fun h2 => ?_, by rw [List.length_append, List.length_singleton]; omega, fun y hy => ?_⟩
  · rw [rdOne_ok h2, ha, wgt_snoc]
    omega
  · rcases List.mem_append.1 hy with hy | hy
    · exact h.short y hy
    · rw [List.mem_singleton.1 hy]
      show (s.text bs 4000).1.length ≤ 4000
      omega
theorem Sofar.done {bs : List UInt8} {m : Nat} {s : RS} {ys : List Li} (h : Sofar bs m s ys) (he : m = 0 ∨ s.why ≠ 0) : rdAll bs = (ys, s) := by
  rw [← h.rd]
  rcases he with rfl | hw
  · rfl
  · exact rdN_no _ _ _ _ hw

theorem copy_head (W : World) (b e : Nat) (x y : Li) (raw : List UInt8) (ao : Option Addr) (cap : Nat) (ha : Ar W b e (lcell x)) (hz : x.h = zero32) (ht : y.t = x.t) (hy : y.h = pad32 raw) (hr : raw.length = 32 ∨ raw = []) (hs : Has W ao raw) :
    ∃ W' n, (Builtin.copy_ #[25, 25] 3 #[.slice (some ⟨b, 1, none⟩) 32 32, .slice ao raw.length cap]).run Try.prog W = .ok n W' ∧ Ar W' b e (lcell y) ∧ Kept (· ≠ b) W W' ∧ W'.heap.size = W.heap.size := by
  rcases hr with hr | rfl
  · obtain ⟨ad, rfl, hcell⟩ := hs (by omega)
    have hl : (cells raw).length = 32 := by rw [cells_length, hr]
    have hrun := run_copy_row (P := Try.prog) W 25 25 3 5 b 1 32 32 ad raw.length cap (lcell x).toArray e (cells raw) Try.underlying25 Try.infoSize ha (by rw [hl, hr]; rfl) (Has.src hcell) (by simp [hl, lcell_length]) (cells_one raw)
    have hc : (((lcell x).toArray.toList.take 1 ++ cells raw ++ (lcell x).toArray.toList.drop (1 + (cells raw).length)).toArray) = (lcell y).toArray := by
      rw [hl]
      have e1 : (lcell x).drop (1 + 32) = [] := List.drop_of_length_le (by rw [lcell_length]; omega)
      simp only [e1, List.append_nil]
      unfold lcell
      rw [hy, ht, pad32_self hr]
      rfl
    rw [hc] at hrun
    exact ⟨_, _, hrun, setRow_heap W b _ (lcell y).toArray e _ ha, (Kept.refl _ _).setRow (by simp) _, by simp [World.setRow]⟩
  · have e2 : y = x := Li.ext' ht (by rw [hy, hz]; rfl)
    subst e2
    exact ⟨W, _, run_copy_none (P := Try.prog) W 25 25 3 5 _ _ _ _ _ _ Try.underlying25 Try.infoSize (by simp), ha, Kept.refl _ _, rfl⟩

end Go.Proofs.Ytmcaoimgmgjjiaa
