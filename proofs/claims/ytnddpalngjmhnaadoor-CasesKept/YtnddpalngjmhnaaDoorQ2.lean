/-
  What read knows on its way, plainly.
-/
import Derived.Test.YtnddpalngjmhnaaDoorQ1
namespace Go.Proofs.YtnddpalngjmhnaaDoor
open Go.RowKit

/-- The first word from p on lies from q up to e. -/
structure At1 (s : List UInt8) (p q e : Nat) : Prop where
  ahead : p ≤ q
  some : q < e
  within : e ≤ s.length
  whole : ∀ c ∈ tex s q e, c ≠ 32
  ends : ∀ h : e < s.length, s[e] = 32
  words : Wo s p = (q, tex s q e) :: Wo s e

theorem word_end (s : List UInt8) (q : Nat) (hq : q ≤ s.length) : ∃ e, q ≤ e ∧ e ≤ s.length ∧ (∀ c ∈ tex s q e, c ≠ 32) ∧ ∀ h : e < s.length, s[e] = 32 := by
  obtain ⟨k, hk⟩ : ∃ k, s.length - q = k := ⟨_, rfl⟩
  induction k generalizing q with
  | zero => exact ⟨q, Nat.le_refl _, hq, by simp [tex_self], fun h => by omega⟩
  | succ k ih =>
    by_cases hc : s[q]'(by omega) = 32
    · exact ⟨q, Nat.le_refl _, hq, by simp [tex_self], fun _ => hc⟩
    · obtain ⟨e, h1, h2, h3, h4⟩ := ih (q + 1) (by omega) (by omega)
      refine ⟨e, by omega, h2, ?_, h4⟩
      rw [tex_cons (by omega) h2]
      intro c hm
      rcases List.mem_cons.1 hm with rfl | hm
      · exact hc
      · exact h3 c hm
theorem At1.mk' {s : List UInt8} {p q : Nat} (h : p ≤ q) (hq : q < s.length) (hc : s[q] ≠ 32) (hw : Wo s p = Wo s q) : ∃ e, At1 s p q e := by
  obtain ⟨e, h1, h2, h3, h4⟩ := word_end s q (by omega)
  have hlt : q < e := by
    rcases Nat.lt_or_ge q e with h | h
    · exact h
    · have : e = q := by omega
      subst this
      exact absurd (h4 hq) hc
  exact ⟨e, h, hlt, h2, h3, h4, hw.trans (Wo_word hlt h2 h3 h4)⟩
/-- Within the word there is no blank; behind it there is one, or nothing. -/
theorem At1.in {s : List UInt8} {p q e i : Nat} (h : At1 s p q e) (h1 : q ≤ i) (h2 : i < e) : ∃ hi : i < s.length, s[i] ≠ 32 := by
  have hi : i < s.length := Nat.lt_of_lt_of_le h2 h.within
  refine ⟨hi, h.whole _ ?_⟩
  rw [tex_cut h1 (Nat.le_of_lt h2) h.within, tex_cons h2 h.within]
  simp
theorem all_tex {s : List UInt8} {q i : Nat} {f : UInt8 → Bool} (h1 : q ≤ i) (hi : i < s.length) (h : (tex s q i).all f = true) (hf : f s[i] = true) : (tex s q (i + 1)).all f = true := by
  rw [tex_succ h1 hi, List.all_append, h]
  simp [hf]
theorem not_all {s : List UInt8} {q e i : Nat} {f : UInt8 → Bool} (h1 : q ≤ i) (h2 : i < e) (he : e ≤ s.length) (hf : f (s[i]'(by omega)) = false) : (tex s q e).all f = false := by
  rw [tex_cut h1 (Nat.le_of_lt h2) he, tex_cons h2 he, List.all_append, List.all_cons, hf]
  simp

/-- A word that does not begin with a letter is a number, or none. -/
theorem kd_noletter {x : List UInt8} {c : UInt8} {r : List UInt8} (e : x = c :: r) (h : isL c = false) : kd x = if isNum x = true then 2 else 1 := by
  have ha : x.all isL = false := by rw [e, List.all_cons, h]; rfl
  have h1 : opOf x = 0 := by
    rcases opOf_cases x with h1 | h1
    · exact h1
    · rw [ha] at h1; exact absurd h1.2.2.1 (by decide)
  simp [kd, h1, isName, ha]
/-- A word that begins with a letter, and has something else, is none. -/
theorem kd_mixed {x : List UInt8} {c : UInt8} {r : List UInt8} (e : x = c :: r) (h : isL c = true) (ha : x.all isL = false) : kd x = 1 := by
  have h1 : opOf x = 0 := by
    rcases opOf_cases x with h1 | h1
    · exact h1
    · rw [ha] at h1; exact absurd h1.2.2.1 (by decide)
  obtain ⟨g1, g2, g3⟩ := isL_not h
  have h2 : isNum x = false := by
    have e2 : mag x = c :: r := by rw [e]; simp [mag, g3]
    unfold isNum
    rw [e2, List.all_cons, g1]
    rfl
  simp [kd, h1, h2, isName, ha]

/-- Where digits begin. -/
structure Dg (s : List UInt8) (q e dg : Nat) : Prop where
  letter : ∀ h : q < s.length, isL s[q] = false
  spot : (dg = q ∧ ∀ h : q < s.length, s[q] ≠ 45) ∨ (dg = q + 1 ∧ ∀ h : q < s.length, s[q] = 45)
  le : dg ≤ e
theorem Dg.mag {s : List UInt8} {p q e dg : Nat} (h : Dg s q e dg) (hw : At1 s p q e) : mag (tex s q e) = tex s dg e := by
  have hq := Nat.lt_of_lt_of_le hw.some hw.within
  rw [tex_cons hw.some hw.within]
  rcases h.spot with ⟨rfl, h1⟩ | ⟨rfl, h1⟩
  · rw [← tex_cons hw.some hw.within]
    unfold Go.Proofs.YtnddpalngjmhnaaDoor.mag
    rw [tex_cons hw.some hw.within]
    simp [h1 hq]
  · simp [Go.Proofs.YtnddpalngjmhnaaDoor.mag, h1 hq]

theorem Dg.head {s : List UInt8} {p q e dg : Nat} (h : Dg s q e dg) (hw : At1 s p q e) : num (tex s q e) = if dg = q then (digs (tex s dg e) : Int) else -(digs (tex s dg e) : Int) := by
  have hq := Nat.lt_of_lt_of_le hw.some hw.within
  unfold num
  rw [h.mag hw, tex_cons hw.some hw.within]
  rcases h.spot with ⟨rfl, h1⟩ | ⟨rfl, h1⟩
  · simp [h1 hq]
  · simp [h1 hq]
theorem Dg.kind {s : List UInt8} {p q e dg : Nat} (h : Dg s q e dg) (hw : At1 s p q e) : kd (tex s q e) = if (tex s dg e).all isD = true ∧ 1 ≤ e - dg ∧ e - dg ≤ 4 then 2 else 1 := by
  have hq := Nat.lt_of_lt_of_le hw.some hw.within
  rw [kd_noletter (tex_cons hw.some hw.within) (h.letter hq)]
  unfold isNum
  rw [h.mag hw, tex_length hw.within]
  simp [and_assoc]
/-- No digit at all. -/
theorem Dg.none {s : List UInt8} {p q e dg : Nat} (h : Dg s q e dg) (hw : At1 s p q e) (hd : dg = e ∨ ∃ hi : dg < s.length, isD s[dg] = false) : kd (tex s q e) = 1 := by
  rw [h.kind hw]
  rcases hd with rfl | ⟨hi, hd⟩
  · simp
  · rcases Nat.lt_or_ge dg e with hl | hl
    · rw [not_all (Nat.le_refl _) hl hw.within hd]
      simp
    · have := h.le
      have : e - dg = 0 := by omega
      simp [this]
/-- What is known behind digits. -/
theorem Dg.some {s : List UInt8} {p q e dg i : Nat} (h : Dg s q e dg) (hw : At1 s p q e) (h1 : dg < i) (h2 : i ≤ e) (h4 : i ≤ dg + 4) (ha : (tex s dg i).all isD = true) (hd : i = e ∨ i = dg + 4 ∨ ∃ hi : i < s.length, isD s[i] = false) :
    (i = e → kd (tex s q e) = 2 ∧ num (tex s q e) = if dg = q then (digs (tex s dg i) : Int) else -(digs (tex s dg i) : Int)) ∧ (i < e → kd (tex s q e) = 1) := by
  constructor
  · rintro rfl
    rw [h.kind hw, h.head hw]
    refine ⟨if_pos ⟨ha, by omega, by omega⟩, rfl⟩
  · intro hl
    rw [h.kind hw, if_neg]
    rintro ⟨g1, g2, g3⟩
    rcases hd with rfl | rfl | ⟨hi, hd⟩
    · omega
    · omega
    · rw [not_all (by omega) hl hw.within hd] at g1
      cases g1
/-- What is known behind letters. -/
theorem letters_some {s : List UInt8} {p q e i : Nat} (hw : At1 s p q e) (h1 : q < i) (h2 : i ≤ e) (hl : ∀ h : q < s.length, isL s[q] = true) (hd : i = e ∨ ∃ hi : i < s.length, isL s[i] = false) :
    (i = e → kd (tex s q e) = kd (tex s q i)) ∧ (i < e → kd (tex s q e) = 1) := by
  refine ⟨fun h => by rw [h], fun h => ?_⟩
  rcases hd with rfl | ⟨hi, hd⟩
  · omega
  · exact kd_mixed (tex_cons hw.some hw.within) (hl _) (not_all (by omega) h hw.within hd)
theorem digs_snoc (l : List UInt8) (c : UInt8) : digs (l ++ [c]) = 10 * digs l + (c.toNat - 48) := by simp [digs]
theorem digs_lt (l : List UInt8) (h : l.all isD = true) : digs l < 10 ^ l.length := by
  obtain ⟨k, hk⟩ : ∃ k, l.length = k := ⟨_, rfl⟩
  rw [hk]
  induction k generalizing l with
  | zero => rw [List.eq_nil_of_length_eq_zero hk]; decide
  | succ k ih =>
    have hne : l ≠ [] := by rintro rfl; simp at hk
    have e : l = l.dropLast ++ [l.getLast hne] := (List.dropLast_concat_getLast hne).symm
    rw [e, List.all_append, Bool.and_eq_true] at h
    have h1 := ih l.dropLast h.1 (by simp [hk])
    have h2 := h.2
    simp only [List.all_cons, List.all_nil, Bool.and_true, isD, Bool.and_eq_true, decide_eq_true_eq] at h2
    rw [e, digs_snoc, Nat.pow_succ]
    omega

end Go.Proofs.YtnddpalngjmhnaaDoor
