/-
  Two lists of texts held against one another (the book's Texts), and the law's few.
-/
import Derived.Test.YtebpkhemkdgbjaaWStr
namespace Go.Proofs.Ytebpkhemkdgbjaa
open Go.RowKit

set_option maxRecDepth 100000 in
set_option maxHeartbeats 1000000 in
theorem texts_any {w : World} {b1 b2 : Nat} {a1 a2 : Option Addr} {n1 n2 c1 c2 : Nat} {xs ys : List (List UInt8)} (h1 : Txs w b1 (.slice a1 n1 c1) xs) (h2 : Txs w b2 (.slice a2 n2 c2) ys) (hl : n1 ≤ 140737488355328) :
    Calls Try.prog 52 #[.slice a1 n1 c1, .slice a2 n2 c2] w fun e w' => e = .returned (.bool (decide (xs = ys))) ∧ ∃ m, w' = w.drewN m := by
  have l1 : Hid (n1 = xs.length) := by obtain ⟨ao, cap, e, _⟩ := h1.shape; injection e
  have l2 : Hid (n2 = ys.length) := by obtain ⟨ao, cap, e, _⟩ := h2.shape; injection e
  have H1 : Hid (Txs w b1 (.slice a1 n1 c1) xs) := h1
  have H2 : Hid (Txs w b2 (.slice a2 n2 c2) ys) := h2
  clear h1 h2
  by_cases hn : n1 = n2
  · subst hn
    go_enter Try.func52, Try.ntmps52
    go_wp2
    go_loopw [5] (fun t wr => ∃ k m : Nat, k ≤ n1 ∧ xs.take k = ys.take k ∧ t = .int .i64 k ∧ wr = w.drewN m) (fun t _ => n1 - (intOf t).toNat)
    case atStart => exact ⟨0, 0, Nat.zero_le _, rfl, rfl, rfl⟩
    case round =>
      obtain ⟨k, m, hk, hE, rfl, rfl⟩ := hrel
      have HE : Hid (xs.take k = ys.take k) := hE
      clear hE
      by_cases hlt : k < n1
      · obtain ⟨_, _, e1, _, g1⟩ := H1.out.shape
        obtain ⟨G1, g1⟩ := g1 (by have := l1.out; omega)
        injection e1 with e1 _ _
        subst e1 g1
        obtain ⟨_, _, e2, _, g2⟩ := H2.out.shape
        obtain ⟨G2, g2⟩ := g2 (by have := l2.out; omega)
        injection e2 with e2 _ _
        subst e2 g2
        have q1 := H1.out.cell k (by have := l1.out; omega)
        have q2 := H2.out.cell k (by have := l2.out; omega)
        have hkl : (k : Int) < (n1 : Int) := by omega
        have hk0 : (0 : Int) ≤ (k : Int) := by omega
        by_cases he : xs[k]'(by have := l1.out; omega) = ys[k]'(by have := l2.out; omega)
        · have HT : Hid (xs.take (k + 1) = ys.take (k + 1)) := by
            show _ = _
            rw [List.take_succ_eq_append_getElem (by have := l1.out; omega), List.take_succ_eq_append_getElem (by have := l2.out; omega), HE.out, he]
          rw [← he] at q2
          generalize xs[k]'(by have := l1.out; omega) = y at *
          clear he
          go_wp2
          go_quiet (fail)
          go_wp2
          go_roundw
          case rel => exact ⟨k + 1, _, by omega, HT.out, by go_num, rfl⟩
          case measure => simp [intOf]; omega
        · have hne : (xs[k]'(by have := l1.out; omega) == ys[k]'(by have := l2.out; omega)) = false := beq_eq_false_iff_ne.2 he
          have HX : Hid (xs ≠ ys) := fun e => he (by subst e; rfl)
          generalize xs[k]'(by have := l1.out; omega) = x at *
          generalize ys[k]'(by have := l2.out; omega) = y at *
          clear he
          go_wp2
          go_quiet (fail)
          go_wp2
          go_ret
          exact ⟨by rw [decide_eq_false HX.out]; rfl, _, drew_two _ _ _⟩
      · have hkl : ¬ ((k : Int) < (n1 : Int)) := by omega
        go_wp2
        go_ret
        refine ⟨?_, m, rfl⟩
        have e : xs = ys := by
          have := HE.out
          rwa [List.take_of_length_le (by have := l1.out; omega), List.take_of_length_le (by have := l2.out; omega)] at this
        rw [decide_eq_true e]
        rfl
  · have hn' : ((n1 : Int) == (n2 : Int)) = false := by simp; omega
    have HX : Hid (xs ≠ ys) := fun e => hn (by rw [l1.out, l2.out, e])
    go_enter Try.func52, Try.ntmps52
    go_wp2
    go_ret
    exact ⟨by rw [decide_eq_false HX.out]; rfl, 0, rfl⟩

theorem tcut (bs : List UInt8) (k : Nat) (hk : k ≤ bs.length) (w0 : World) : (Instr.slice 9 (.string ⟨bs.toArray⟩) none (some (.int .i64 (k : Int))) none).run Try.prog w0 = .ok (.string ⟨(bs.take k).toArray⟩) w0 := by
  have hs : ((⟨bs.toArray⟩ : ByteArray).size : Int) = (bs.length : Int) := by simp [ByteArray.size]
  rw [run_slice_string_to_if (P := Try.prog) w0 9 ⟨bs.toArray⟩ .i64 k Try.underlying9, if_pos ⟨by omega, by omega⟩]
  congr 2
  apply ByteArray.ext
  simp

end Go.Proofs.Ytebpkhemkdgbjaa
