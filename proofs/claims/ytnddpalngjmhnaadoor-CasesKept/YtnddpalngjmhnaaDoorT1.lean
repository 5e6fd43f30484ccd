/-
  Texts: strings.Cut at one byte, TrimLeft, Trim, Clone; word, trim, number of package schema.
-/
import Derived.Test.YtnddpalngjmhnaaDoorTPlain
import Derived.Test.YtnddpalngjmhnaaDoorTLay
import Derived.Test.YtnddpalngjmhnaaDoorQ9
import Derived.Test.YtnddpalngjmhnaaDoorWBook
namespace Go.Proofs.YtnddpalngjmhnaaDoor
open Go.RowKit

theorem index_byte (s : List UInt8) (c : UInt8) : Lib.indexByte s c = if s.any (fun x => x == c) = true then ((s.takeWhile (fun x => x != c)).length : Int) else -1 := by
  induction s with
  | nil => rfl
  | cons x r ih =>
    unfold Lib.indexByte
    by_cases hx : x = c
    · subst hx
      simp
    · have h1 : (x == c) = false := by simpa using hx
      have h2 : (x != c) = true := by simpa using hx
      rw [h1, ih]
      simp only [List.any_cons, h1, Bool.false_or, List.takeWhile_cons, h2, if_true, List.length_cons]
      by_cases h3 : r.any (fun x => x == c) = true
      · rw [if_pos h3, if_pos h3]
        have : ((((r.takeWhile (fun x => x != c)).length : Int)) == -1) = false := by rw [beq_eq_false_iff_ne]; omega
        rw [this]
        simp
      · rw [if_neg h3, if_neg h3]
        simp
theorem cut_hit {s : List UInt8} {c : UInt8} (h : s.any (fun x => x == c) = true) : (s.takeWhile (fun x => x != c)).length + 1 ≤ s.length ∧ s.take (s.takeWhile (fun x => x != c)).length = s.takeWhile (fun x => x != c) ∧ s.drop ((s.takeWhile (fun x => x != c)).length + 1) = (s.dropWhile (fun x => x != c)).drop 1 := by
  have h3 := (cut_len c s).2.2 h
  simp only [cutAt] at h3
  have h0 := List.takeWhile_append_dropWhile (p := fun x => x != c) (l := s)
  refine ⟨by omega, ?_, ?_⟩
  · have h4 : (s.takeWhile (fun x => x != c) ++ s.dropWhile (fun x => x != c)).take (s.takeWhile (fun x => x != c)).length = s.takeWhile (fun x => x != c) := List.take_left ..
    rwa [h0] at h4
  · have h4 : (s.takeWhile (fun x => x != c) ++ s.dropWhile (fun x => x != c)).drop (s.takeWhile (fun x => x != c)).length = s.dropWhile (fun x => x != c) := List.drop_left ..
    rw [h0] at h4
    rw [← List.drop_drop, h4]
theorem cut_miss {s : List UInt8} {c : UInt8} (h : s.any (fun x => x == c) = false) : cutAt c s = (s, [], false) := by
  have h1 : ∀ x ∈ s, (x != c) = true := by
    intro x hx
    have := List.any_eq_false.1 h x hx
    simpa using this
  obtain ⟨e1, e2⟩ : s.takeWhile (fun x => x != c) = s ∧ s.dropWhile (fun x => x != c) = [] := by
    clear h
    induction s with
    | nil => exact ⟨rfl, rfl⟩
    | cons y r ih =>
      obtain ⟨i1, i2⟩ := ih (fun x hx => h1 x (List.mem_cons_of_mem _ hx))
      have hy := h1 y (List.mem_cons_self ..)
      rw [List.takeWhile_cons, List.dropWhile_cons, if_pos hy, if_pos hy, i1, i2]
      exact ⟨rfl, rfl⟩
  simp [cutAt, e1, e2, h]

theorem from_text (s : List UInt8) (k : Nat) (hk : k ≤ s.length) (w0 : World) : (Instr.slice 9 (.string ⟨s.toArray⟩) (some (.int .i64 (k : Int))) none none).run Tryd.prog w0 = .ok (.string ⟨(s.drop k).toArray⟩) w0 := by
  rw [run_slice_string_from_if (P := Tryd.prog) w0 9 ⟨s.toArray⟩ .i64 k Tryd.underlying9, if_pos ⟨by omega, by simp [ByteArray.size]; omega⟩]
  congr 2
  apply ByteArray.ext
  have hz : (⟨s.toArray⟩ : ByteArray).size = s.length := by simp [ByteArray.size]
  simp [hz, List.take_of_length_le]

/-- A guard of one word without a name. -/
theorem evl_word (x : List UInt8) (h : ∀ c ∈ x, c ≠ 32) : (isNum x = true → evl [] [] x = (num x, 0)) ∧ (isNum x = false → (evl [] [] x).1 = 0 ∧ (evl [] [] x).2 ≠ 0) := by
  have hlen : isNum x = true → x.length ≤ 5 := by
    intro hn
    simp only [isNum, Bool.and_eq_true, decide_eq_true_eq] at hn
    have := hn.2
    unfold mag at this
    split at this
    · rw [List.length_tail] at this; omega
    · omega
  by_cases h0 : x = []
  · subst h0
    refine ⟨fun h => by simp [isNum, mag] at h, fun _ => ?_⟩
    decide +kernel
  · have hW : Wo x 0 = [(0, x)] := by
      have := Wo_word (s := x) (q := 0) (e := x.length) (List.length_pos_iff.2 h0) (Nat.le_refl _) (by rw [tex_all]; exact h) (fun h => absurd h (Nat.lt_irrefl _))
      rw [tex_all, Wo_end (Nat.le_refl _)] at this
      exact this
    have hT : tx x = [x] := tx_one x h h0
    refine ⟨fun hn => ?_, fun hn => ?_⟩
    · have hk := (kd_num x).2 hn
      have hr : rf [] x = 0 := by simp [rf, rfk, hk]
      have hc : chk [] x = (0, 0) := by
        have := hlen hn
        rw [chk, if_neg (by omega), chkW, hW]
        simp [lk, hr, hk, ar, times, tailOf]
      rw [evl, hc, hT]
      simp [vl, hk]
    · have hc : (chk [] x).1 ≠ 0 := by
        by_cases hl : 120 < x.length
        · rw [chk, if_pos hl]; simp
        · rw [chk, if_neg hl, chkW, hW]
          have hk := kd_cases x
          have hk2 : kd x ≠ 2 := fun h => by rw [(kd_num x).1 h] at hn; cases hn
          by_cases hr : rf [] x = 0
          · have har : ar (kd x) = 1 ∨ ar (kd x) = 2 := by
              have h1 : kd x ≠ 1 ∧ kd x ≠ 3 := by
                rcases rf_cases [] x with ⟨_, h1⟩ | ⟨_, _, h1⟩ | ⟨h1, h2, _⟩
                · omega
                · omega
                · exact ⟨h1, fun h => by simpa using h2 h⟩
              unfold ar
              split
              · exact .inl rfl
              · rw [if_pos (by omega)]; exact .inr rfl
            rcases har with har | har
            · simp [lk, hr, har, times]
            · simp [lk, hr, har, times]
          · simp [lk, hr]
      rw [evl, if_pos hc]
      exact ⟨rfl, hc⟩
/-- What number answers of a word. -/
def nm (x : List UInt8) : Int := if isNum x = true then num x else 0
end Go.Proofs.YtnddpalngjmhnaaDoor
