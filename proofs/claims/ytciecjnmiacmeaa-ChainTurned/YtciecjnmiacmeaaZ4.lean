/-
  Check: the program's.
-/
import Derived.Test.YtciecjnmiacmeaaZ2
namespace Go.Proofs.Ytciecjnmiacmeaa
open Go.RowKit

theorem eq_yes {xs ys : List UInt8} (hx : xs.length = 32) (he : xs = ys) (w0 : World) : (Op.equalIn 10000 25 (.agg (cells xs).toArray) (.agg (cells ys).toArray)).run Try.prog w0 = .ok true w0 := by
  subst he
  have := eq32 xs xs hx hx w0
  rwa [beq_self_eq_true] at this
theorem eq_no {xs ys : List UInt8} (hx : xs.length = 32) (hy : ys.length = 32) (he : xs ≠ ys) (w0 : World) : (Op.equalIn 10000 25 (.agg (cells xs).toArray) (.agg (cells ys).toArray)).run Try.prog w0 = .ok false w0 := by
  have := eq32 xs ys hx hy w0
  rwa [beq_eq_false_iff_ne.2 he] at this
/-- What Check answers. -/
def EChk (xs : List Li) (w : World) (e : Ending) (w' : World) : Prop := ∃ n : Nat, e = .returned (.int .i64 n) ∧ IsChk xs n ∧ Kept (fun _ => True) w w'

set_option maxRecDepth 100000 in
set_option maxHeartbeats 2000000 in
theorem check_any {w : World} {ao : Option Addr} {cap : Nat} {xs : List Li} (h : Lv w ao xs) (hn : xs.length ≤ 100000) (hs : ∀ x ∈ xs, x.t.length ≤ 100000000000000) :
    Calls Try.prog 11 #[.slice ao xs.length cap] w fun e w' => EChk xs w e w' := by
  have HV : Hid (Lv w ao xs) := h
  have HS : Hid (∀ x ∈ xs, x.t.length ≤ 100000000000000) := hs
  have hgd := guard32
  clear h hs
  go_enter Try.func11, Try.ntmps11
  go_wp2_with ((with_reducible refine w_alloc (d := some 3) arr32 ?_); intro w2 a3 k2 s2)
  have A3 : Ar w2 w.heap.size 25 (cells zero32) := a3
  obtain ⟨B, hB⟩ : ∃ B, B = w.heap.size := ⟨_, rfl⟩
  rw [← hB] at A3 ⊢
  have HB : Hid (B = w.heap.size) := hB
  have HA : Hid (Ar w2 B 25 (cells zero32)) := A3
  have K2 : Hid (Kept (fun _ => True) w w2) := k2
  clear hB a3 A3 k2 s2
  go_loopw [8] (fun t wr => ∃ k : Nat, k ≤ xs.length ∧ t = .int .i64 k ∧ Ar wr B 25 (cells (hAt zero32 (txs xs) k)) ∧ (∀ j (_ : j < k) (hj : j < xs.length), okL xs j hj) ∧ Kept (fun _ => True) w wr) (fun t _ => xs.length - (intOf t).toNat)
  case atStart => exact ⟨0, Nat.zero_le _, rfl, HA.out, fun j h => by omega, K2.out⟩
  case round =>
    obtain ⟨k, hk, rfl, ar, hall, kr⟩ := hrel
    have HL : Hid (∀ j (_ : j < k) (hj : j < xs.length), okL xs j hj) := hall
    have AR : Hid (Ar wr B 25 (cells (hAt zero32 (txs xs) k))) := ar
    clear hall ar
    by_cases hlt : k < xs.length
    · obtain ⟨b, off, rfl, hb, hc⟩ := HV.out.row (by omega)
      have hr := range_kept (hc k hlt) kr hb trivial
      have i0 : (0 : Int) ≤ (k : Int) := by omega
      have i1 : (k : Int) < (xs.length : Int) := by omega
      have hN : hAt zero32 (txs xs) (k + 1) = nxt (hAt zero32 (txs xs) k) xs[k].t := by
        rw [hAt_succ zero32 (txs xs) k (by rw [txs_length]; exact hlt), txs_get xs k hlt]
      have HO : Hid (okL xs k hlt ↔ xs[k].h = hAt zero32 (txs xs) (k + 1)) := Iff.rfl
      have lt : (xs[k].t).length ≤ 100000000000000 := HS.out _ (List.getElem_mem _)
      have lh : (hAt zero32 (txs xs) k).length = 32 := hAt_len zero32_len _ k
      have lx := xs[k].len
      generalize hAt zero32 (txs xs) k = hd at *
      generalize hn2 : hAt zero32 (txs xs) (k + 1) = hd' at *
      have HN2 : Hid (hAt zero32 (txs xs) (k + 1) = hd') := hn2
      have cn := fun (w0 : World) => next_any (w := w0) hd xs[k].t lh lt
      have ln := nxt_len hd xs[k].t
      rw [← hN] at cn ln
      have HR : Hid (wr.rangeAt b (off + k * 33) (lcell xs[k])) := hr
      have HOK : Hid (xs[k].h = hd' → ∀ h : k < xs.length, okL xs k h) := fun e _ => HO.out.2 e
      have HNO : Hid (xs[k].h ≠ hd' → ∀ h : k < xs.length, ¬ okL xs k h) := fun e _ q => e (HO.out.1 q)
      clear hc hn2 hN hr HO
      generalize xs[k] = x at *
      have ht : wr.heap.size = wr.heap.size := rfl
      have l32 : (cells hd).length = 32 := by rw [cells_length, lh]
      have ln2 : (cells hd').length = 32 := by rw [cells_length, ln]
      have lx2 : (cells x.h).length = 32 := by rw [cells_length, lx]
      have on2 := cells_one hd'
      have hz := AR.out.lt
      by_cases he : x.h = hd'
      · have hq := fun w0 => eq_yes lx he w0
        have HE : Hid (x.h = hd') := he
        clear he lh ln lt lx ht
        go_wp2_with (first
          | ((with_reducible apply w_loadL (d := some 12) linkP (b := b) (o := off + k * 33) (x := x)); (case hx => rfl); (case hr => exact HR.out))
          | ((with_reducible refine w_allocL (d := some 5) linkP ?_); intro w3 a5 k3 s3; have cc0 := s3.out)
          | ((with_reducible apply w_storeL (x := .tmp 5) linkP (b := wr.heap.size) (z := x) (old := zeroLi)); (case hx => rfl); (case hy => rfl); (case ha => exact a5); intro w4 a5' k4 s4; have ct := a5'.text)
          | ((with_reducible apply w_loadH (d := some 13) (b := B) (o := 0) (cs := cells hd)); (case hx => rfl); (case hr => exact ((AR.out.kept k3 trivial).kept k4 (by omega)).range); (case hl => exact l32))
          | (go_at_call 27; (with_reducible refine Calls.mono (cn _) ?_); rintro e w5 ⟨rfl, k5⟩)
          | ((with_reducible apply w_store (x := .tmp 3) (b := B) (xs := cells hd') (old := cells hd) arr32); (case hx => rfl); (case hy => rfl); (case ha => exact ((AR.out.kept k3 trivial).kept k4 (by omega)).kept k5 trivial); (case ho => exact l32); (case hl => exact ln2); (case h1 => exact on2); intro w6 a6 k6 s6)
          | ((with_reducible apply w_loadH (d := some 18) (b := wr.heap.size) (o := 1) (cs := cells x.h)); (case hx => rfl); (case hr => exact ((a5'.kept k5 trivial).kept k6 (by omega)).head); (case hl => exact lx2))
          | ((with_reducible apply w_loadH (d := some 19) (b := B) (o := 0) (cs := cells hd')); (case hx => rfl); (case hr => exact a6.range); (case hl => exact ln2)))
        go_roundw
        case rel =>
          refine ⟨k + 1, by omega, by go_num, ?_, fun j hj hj2 => ?_, ?_⟩
          · rw [HN2.out]; exact a6
          · by_cases e : j = k
            · subst e; exact HOK.out HE.out hj2
            · exact HL.out j (by omega) hj2
          · have hb2 := HB.out
            exact (((kr.trans k3).then k4 (fun i hi _ => by have := kr.size; omega)).trans k5).then k6 (fun i hi _ => by omega)
        case measure => simp [intOf]; omega
      · have hq := fun w0 => eq_no lx ln he w0
        have HE : Hid (x.h ≠ hd') := he
        clear he lh ln lt lx ht
        go_wp2_with (first
          | ((with_reducible apply w_loadL (d := some 12) linkP (b := b) (o := off + k * 33) (x := x)); (case hx => rfl); (case hr => exact HR.out))
          | ((with_reducible refine w_allocL (d := some 5) linkP ?_); intro w3 a5 k3 s3; have cc0 := s3.out)
          | ((with_reducible apply w_storeL (x := .tmp 5) linkP (b := wr.heap.size) (z := x) (old := zeroLi)); (case hx => rfl); (case hy => rfl); (case ha => exact a5); intro w4 a5' k4 s4; have ct := a5'.text)
          | ((with_reducible apply w_loadH (d := some 13) (b := B) (o := 0) (cs := cells hd)); (case hx => rfl); (case hr => exact ((AR.out.kept k3 trivial).kept k4 (by omega)).range); (case hl => exact l32))
          | (go_at_call 27; (with_reducible refine Calls.mono (cn _) ?_); rintro e w5 ⟨rfl, k5⟩)
          | ((with_reducible apply w_store (x := .tmp 3) (b := B) (xs := cells hd') (old := cells hd) arr32); (case hx => rfl); (case hy => rfl); (case ha => exact ((AR.out.kept k3 trivial).kept k4 (by omega)).kept k5 trivial); (case ho => exact l32); (case hl => exact ln2); (case h1 => exact on2); intro w6 a6 k6 s6)
          | ((with_reducible apply w_loadH (d := some 18) (b := wr.heap.size) (o := 1) (cs := cells x.h)); (case hx => rfl); (case hr => exact ((a5'.kept k5 trivial).kept k6 (by omega)).head); (case hl => exact lx2))
          | ((with_reducible apply w_loadH (d := some 19) (b := B) (o := 0) (cs := cells hd')); (case hx => rfl); (case hr => exact a6.range); (case hl => exact ln2)))
        go_ret
        refine ⟨k, rfl, ⟨by omega, HL.out, HNO.out HE.out⟩, ?_⟩
        have hb2 := HB.out
        exact (((kr.trans k3).then k4 (fun i hi _ => by have := kr.size; omega)).trans k5).then k6 (fun i hi _ => by omega)
    · have i1 : ¬ (k : Int) < (xs.length : Int) := by omega
      have hke : k = xs.length := by omega
      subst hke
      go_wp2
      go_ret
      exact ⟨xs.length, rfl, ⟨Nat.le_refl _, HL.out, fun h => absurd h (by omega)⟩, kr⟩

end Go.Proofs.Ytciecjnmiacmeaa
