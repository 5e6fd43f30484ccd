/-
  A part's words with their places: the first word and the rest, as they are cut off; the document's way to read a part.
-/
import Derived.Test.YtahbfffhkpojmaaDoorTPlain
import Derived.Test.YtahbfffhkpojmaaDoorQ2
namespace Go.Proofs.YtahbfffhkpojmaaDoor
open Go.RowKit

theorem par_wrong0 (t : Ty) {q : List UInt8} (h1 : (wrd (Lib.trimB q 32)).1 ≠ [97, 116, 116, 114]) (h2 : (wrd (Lib.trimB q 32)).1 ≠ [115, 116, 97, 103, 101]) (h3 : (wrd (Lib.trimB q 32)).1 ≠ [109, 97, 114, 107]) : par t q = none := by
  unfold par par0
  rw [if_neg h1, if_neg h2, if_neg h3]
/-- What is known of the first word from k on. -/
structure Fw (p : List UInt8) (k q : Nat) (x : List UInt8) (r : List (Nat × List UInt8)) : Prop where
  ahead : k ≤ q
  within : q + x.length ≤ p.length
  some : x ≠ []
  text : x = tex p q (q + x.length)
  blanks : ∀ i (h : i < p.length), k ≤ i → i < q → p[i] = 32
  whole : ∀ c ∈ x, c ≠ 32
  ends : ∀ h : q + x.length < p.length, p[q + x.length] = 32
  rest : r = Wo p (q + x.length)
theorem fw_of (p : List UInt8) (n : Nat) : ∀ k, p.length - k = n → k ≤ p.length → (Wo p k = [] ∧ ∀ i (h : i < p.length), k ≤ i → p[i] = 32) ∨ ∃ q x r, Wo p k = (q, x) :: r ∧ Fw p k q x r := by
  induction n with
  | zero =>
    intro k hk hl
    exact .inl ⟨Wo_end (by omega), fun i h h1 => by omega⟩
  | succ n ih =>
    intro k hk hl
    have hlt : k < p.length := by omega
    by_cases hc : p[k] = 32
    · rw [Wo_blank hlt hc]
      rcases ih (k + 1) (by omega) (by omega) with ⟨h1, h2⟩ | ⟨q, x, r, h1, h2⟩
      · refine .inl ⟨h1, fun i h h3 => ?_⟩
        rcases Nat.eq_or_lt_of_le h3 with e | e
        · subst e; exact hc
        · exact h2 i h e
      · refine .inr ⟨q, x, r, h1, ⟨by have := h2.ahead; omega, h2.within, h2.some, h2.text, fun i h h3 h4 => ?_, h2.whole, h2.ends, h2.rest⟩⟩
        rcases Nat.eq_or_lt_of_le h3 with e | e
        · subst e; exact hc
        · exact h2.blanks i h e h4
    · obtain ⟨e, hE⟩ := At1.mk' (Nat.le_refl k) hlt hc rfl
      have hl2 : (tex p k e).length = e - k := tex_length hE.within
      have he : k + (tex p k e).length = e := by have := hE.some; omega
      refine .inr ⟨k, tex p k e, Wo p e, hE.words, ⟨Nat.le_refl _, by rw [he]; exact hE.within, ?_, by rw [he], fun i h h1 h2 => by omega, hE.whole, ?_, by rw [he]⟩⟩
      · intro h0
        rw [h0] at hl2
        have := hE.some
        simp at hl2
        omega
      · intro h
        simp only [he] at h ⊢
        exact hE.ends h
theorem fw_cons {p : List UInt8} {k q : Nat} {x : List UInt8} {r : List (Nat × List UInt8)} (hk : k ≤ p.length) (h : Wo p k = (q, x) :: r) : Fw p k q x r := by
  rcases fw_of p _ k rfl hk with ⟨h1, _⟩ | ⟨q', x', r', h1, h2⟩
  · rw [h] at h1; cases h1
  · rw [h] at h1
    cases h1
    exact h2
theorem fw_nil {p : List UInt8} {k : Nat} (hk : k ≤ p.length) (h : Wo p k = []) : ∀ i (h : i < p.length), k ≤ i → p[i] = 32 := by
  rcases fw_of p _ k rfl hk with ⟨_, h2⟩ | ⟨q', x', r', h1, h2⟩
  · exact h2
  · rw [h] at h1; cases h1

/-- Where a text ends without its blanks. -/
structure IsEnd (p : List UInt8) (E : Nat) : Prop where
  within : E ≤ p.length
  last : ∀ h : 0 < E, p[E - 1]'(by omega) ≠ 32
  blanks : ∀ i (h : i < p.length), E ≤ i → p[i] = 32
/-- What stands from a row of words on. -/
def Rs0 (p : List UInt8) (E : Nat) : List (Nat × List UInt8) → List UInt8
  | [] => []
  | (q, _) :: _ => tex p q E
theorem word_ahead {p : List UInt8} {E k q : Nat} {x : List UInt8} {r : List (Nat × List UInt8)} (hE : IsEnd p E) (h : Fw p k q x r) : q + x.length ≤ E ∧ q < E := by
  have hx : 0 < x.length := List.length_pos_iff.2 h.some
  have hw := h.within
  have hl : p[q + x.length - 1]'(by omega) ≠ 32 := by
    refine h.whole _ ?_
    have e : x = tex p q (q + x.length) := h.text
    have h2 : q + x.length - 1 < p.length := by omega
    have h3 : tex p q (q + x.length) = tex p q (q + x.length - 1) ++ [p[q + x.length - 1]] := by
      have := tex_succ (s := p) (q := q) (p := q + x.length - 1) (by omega) h2
      rwa [show q + x.length - 1 + 1 = q + x.length by omega] at this
    have h4 : p[q + x.length - 1]'h2 ∈ tex p q (q + x.length) := by rw [h3]; simp
    rw [← e] at h4
    exact h4
  have h1 : q + x.length ≤ E := by
    rcases Nat.lt_or_ge E (q + x.length) with h4 | h4
    · exact absurd (hE.blanks (q + x.length - 1) (by omega) (by omega)) hl
    · exact h4
  exact ⟨h1, by omega⟩
theorem tex_get {p : List UInt8} {a b j : Nat} {c : UInt8} (hb : b ≤ p.length) (h : (tex p a b)[j]? = some c) : ∃ hj : a + j < p.length, a + j < b ∧ p[a + j] = c := by
  obtain ⟨h1, h2⟩ := List.getElem?_eq_some_iff.1 h
  rw [tex_length hb] at h1
  refine ⟨by omega, by omega, ?_⟩
  rw [← h2]
  simp [tex]
theorem tex_drop {p : List UInt8} {a b j : Nat} (h : a + j ≤ b) (hb : b ≤ p.length) : (tex p a b).drop j = tex p (a + j) b := by
  rw [tex_cut (p := a + j) (by omega) h hb, List.drop_append_of_le_length (by rw [tex_length (by omega)]; omega), List.drop_eq_nil_of_le (by rw [tex_length (by omega)]; omega), List.nil_append]
theorem left_tex {p : List UInt8} {a q b : Nat} (h1 : a ≤ q) (h2 : q < b) (hb : b ≤ p.length) (hbl : ∀ i (h : i < p.length), a ≤ i → i < q → p[i] = 32) (hq : p[q]'(by omega) ≠ 32) : Lib.trimLeftB (tex p a b) 32 = tex p q b := by
  rw [Lib.trimLeftB_drop (tex p a b) 32 (q - a) (by rw [tex_length hb]; omega)]
  · rw [tex_drop (by omega) hb, show a + (q - a) = q by omega]
  · intro j c hj hc
    obtain ⟨h3, _, h4⟩ := tex_get hb hc
    rw [← h4]
    exact hbl _ h3 (by omega) (by omega)
  · intro c hc
    obtain ⟨h3, _, h4⟩ := tex_get hb hc
    rw [← h4]
    simp only [show a + (q - a) = q by omega]
    exact hq
theorem first_not {p : List UInt8} {k q : Nat} {x : List UInt8} {r : List (Nat × List UInt8)} (h : Fw p k q x r) : ∃ hq : q < p.length, p[q] ≠ 32 := by
  have hx : 0 < x.length := List.length_pos_iff.2 h.some
  have hw := h.within
  refine ⟨by omega, h.whole _ ?_⟩
  have e : x = tex p q (q + x.length) := h.text
  have h4 : p[q]'(by omega) ∈ tex p q (q + x.length) := by rw [tex_cons (by omega) h.within]; simp
  rw [← e] at h4
  exact h4
/-- The words of a trimmed text. -/
theorem trim_words {p : List UInt8} {E : Nat} (hE : IsEnd p E) : Lib.trimB p 32 = Rs0 p E (Wo p 0) := by
  have hr : Lib.trimRightB p 32 = tex p 0 E := by
    have e : tex p 0 E = p.take E := by simp [tex]
    rw [e]
    have h0 := Lib.trimRightB_take p 32 E hE.within (fun j b hj hb => by
      obtain ⟨h1, h2⟩ := List.getElem?_eq_some_iff.1 hb
      rw [← h2]
      exact hE.blanks j h1 hj) (fun b h0 hb => by
      obtain ⟨h1, h2⟩ := List.getElem?_eq_some_iff.1 hb
      rw [← h2]
      exact hE.last h0)
    exact h0
  unfold Lib.trimB
  rw [hr]
  cases hw : Wo p 0 with
  | nil =>
    have hb := fw_nil (Nat.zero_le _) hw
    have h0 : E = 0 := by
      rcases Nat.eq_zero_or_pos E with h | h
      · exact h
      · exact absurd (hb (E - 1) (by have := hE.within; omega) (Nat.zero_le _)) (hE.last h)
    subst h0
    simp [tex, Rs0, Lib.trimLeftB]
  | cons a r =>
    obtain ⟨q, x⟩ := a
    have h := fw_cons (Nat.zero_le _) hw
    obtain ⟨hq, hn⟩ := first_not h
    exact left_tex (Nat.zero_le _) (word_ahead hE h).2 hE.within (fun i h1 h2 h3 => h.blanks i h1 h2 h3) hn
theorem cut_word (x y : List UInt8) (hx : ∀ c ∈ x, c ≠ 32) : (y = [] → cutAt 32 (x ++ y) = (x, [], false)) ∧ (∀ y', y = 32 :: y' → (cutAt 32 (x ++ y)).1 = x ∧ (cutAt 32 (x ++ y)).2.1 = y') := by
  induction x with
  | nil => exact ⟨fun h => by subst h; rfl, fun y' h => by subst h; simp [cutAt]⟩
  | cons c x ih =>
    have hc := hx c (List.mem_cons_self ..)
    have hc' : (c != 32) = true := by simpa using hc
    have hc2 : (c == 32) = false := by simpa using hc
    obtain ⟨i1, i2⟩ := ih (fun c h => hx c (List.mem_cons_of_mem _ h))
    refine ⟨fun h => ?_, fun y' h => ?_⟩
    · have := i1 h
      simp only [cutAt, List.cons_append, List.takeWhile_cons, List.dropWhile_cons, hc', if_true, List.any_cons, hc2, Bool.false_or, Prod.mk.injEq] at this ⊢
      exact ⟨by rw [this.1], this.2.1, this.2.2⟩
    · have := i2 y' h
      simp only [cutAt, List.cons_append, List.takeWhile_cons, List.dropWhile_cons, hc', if_true] at this ⊢
      exact ⟨by rw [this.1], this.2⟩
/-- The first word is cut off. -/
theorem wrd_words {p : List UInt8} {E k q : Nat} {x : List UInt8} {r : List (Nat × List UInt8)} (hE : IsEnd p E) (h : Fw p k q x r) : wrd (Rs0 p E ((q, x) :: r)) = (x, Rs0 p E r) := by
  obtain ⟨h1, h2⟩ := word_ahead hE h
  have hT : tex p q E = x ++ tex p (q + x.length) E := by
    have := tex_cut (s := p) (q := q) (p := q + x.length) (e := E) (by omega) h1 hE.within
    rwa [← h.text] at this
  obtain ⟨c1, c2⟩ := cut_word x (tex p (q + x.length) E) h.whole
  show (((cutAt 32 (tex p q E)).1, Lib.trimLeftB (cutAt 32 (tex p q E)).2.1 32) : List UInt8 × List UInt8) = _
  rw [hT]
  rcases Nat.eq_or_lt_of_le h1 with e | e
  · have h0 : tex p (q + x.length) E = [] := by rw [e]; exact tex_self _ _
    rw [c1 h0]
    have hr : r = [] := by
      rw [h.rest, e]
      rcases fw_of p _ E rfl hE.within with ⟨h3, _⟩ | ⟨q', x', r', h3, h4⟩
      · exact h3
      · have := (word_ahead hE h4).2
        have := h4.ahead
        omega
    rw [hr]
    rfl
  · have hlt : q + x.length < p.length := Nat.lt_of_lt_of_le e hE.within
    have h0 : tex p (q + x.length) E = 32 :: tex p (q + x.length + 1) E := by rw [tex_cons e hE.within, h.ends hlt]
    obtain ⟨c3, c4⟩ := c2 _ h0
    rw [c3, c4]
    cases hr : r with
    | nil =>
      have h3 := fw_nil (p := p) (k := q + x.length) (by omega) (by rw [← h.rest, hr])
      exact absurd (h3 (E - 1) (by have := hE.within; omega) (by omega)) (hE.last (by omega))
    | cons a r' =>
      obtain ⟨q', x'⟩ := a
      have h3 := fw_cons (p := p) (k := q + x.length) (by omega) (by rw [← h.rest, hr])
      obtain ⟨h4, h5⟩ := first_not h3
      have h6 := (word_ahead hE h3).2
      have h7 : q + x.length + 1 ≤ q' := by
        rcases Nat.eq_or_lt_of_le h3.ahead with h8 | h8
        · exfalso
          subst h8
          exact h5 (h.ends hlt)
        · exact h8
      show (x, Lib.trimLeftB (tex p (q + x.length + 1) E) 32) = (x, tex p q' E)
      rw [left_tex h7 h6 hE.within (fun i h8 h9 h10 => h3.blanks i h8 (by omega) h10) h5]

theorem rs_nil {p : List UInt8} {E k q : Nat} {x : List UInt8} {r : List (Nat × List UInt8)} (hE : IsEnd p E) (h : Fw p k q x r) : Rs0 p E ((q, x) :: r) ≠ [] := by
  intro h0
  have h1 := tex_length (s := p) (q := q) hE.within
  have h2 : tex p q E = [] := h0
  rw [h2] at h1
  have := (word_ahead hE h).2
  simp at h1
  omega
theorem wrd_nil : wrd [] = ([], []) := rfl
/-- Words, one behind the other, from k on. -/
theorem fw_next {p : List UInt8} {k q : Nat} {x : List UInt8} {r : List (Nat × List UInt8)} (h : Fw p k q x r) : r = Wo p (q + x.length) ∧ q + x.length ≤ p.length := ⟨h.rest, h.within⟩
/-- All that a part's words say: the row of words, and what is cut off behind each. -/
def Chain (p : List UInt8) (E : Nat) : List (Nat × List UInt8) → Prop
  | [] => True
  | (q, x) :: r => wrd (Rs0 p E ((q, x) :: r)) = (x, Rs0 p E r) ∧ Rs0 p E ((q, x) :: r) ≠ [] ∧ x ≠ [] ∧ Chain p E r
theorem chain_of {p : List UInt8} {E : Nat} (hE : IsEnd p E) : ∀ (ws : List (Nat × List UInt8)) (k : Nat), k ≤ p.length → Wo p k = ws → Chain p E ws
  | [], _, _, _ => trivial
  | (q, x) :: r, k, hk, h => by
    have hf := fw_cons hk h
    exact ⟨wrd_words hE hf, rs_nil hE hf, hf.some, chain_of hE r _ hf.within hf.rest.symm⟩
theorem num_nil : isNum [] = false := by simp [isNum, mag]
/-- The first part, by its words. -/
theorem fst_words {p : List UInt8} {E : Nat} (hE : IsEnd p E) : (∀ a b, Wo p 0 = [a, b] → a.2 = [116, 121, 112, 101] → fst1 p = some b.2) ∧ ((∀ a b, Wo p 0 = [a, b] → a.2 ≠ [116, 121, 112, 101]) → fst1 p = none) := by
  have hc := chain_of hE _ 0 (Nat.zero_le _) rfl
  have ht := trim_words hE
  unfold fst1
  rw [ht]
  generalize Wo p 0 = ws at hc ⊢
  unfold fst0
  rcases ws with _ | ⟨⟨q, x⟩, r⟩
  · exact ⟨(fun a b h => by cases h), (fun _ => by simp [Rs0, wrd_nil])⟩
  · obtain ⟨h1, h2, h3, hc⟩ := hc
    rw [h1]
    rcases r with _ | ⟨⟨q2, x2⟩, r2⟩
    · refine ⟨(fun a b h => by cases h), fun _ => ?_⟩
      rw [if_neg (fun h => h.2.1 (by simp [Rs0, wrd_nil]))]
    · obtain ⟨g1, g2, g3, hc⟩ := hc
      simp only [g1]
      rcases r2 with _ | ⟨⟨q3, x3⟩, r3⟩
      · refine ⟨fun a b h hx => ?_, fun h => ?_⟩
        · cases h
          rw [if_pos ⟨hx, g3, rfl⟩]
        · rw [if_neg (fun h' => h _ _ rfl h'.1)]
      · obtain ⟨k1, k2, k3, hc⟩ := hc
        refine ⟨(fun a b h => by cases h), fun _ => ?_⟩
        rw [if_neg (fun h => k2 h.2.2)]
/-- Another part: no words. -/
theorem par_none {p : List UInt8} {E : Nat} (hE : IsEnd p E) (t : Ty) (h : Wo p 0 = []) : par t p = none := by
  have ht := trim_words hE
  rw [h] at ht
  refine par_wrong0 t ?_ ?_ ?_
  all_goals
    rw [ht]
    simp [Rs0, wrd_nil]

/-- Another part, by its first word. -/
theorem par_other {p : List UInt8} {E : Nat} (hE : IsEnd p E) (t : Ty) {a : Nat × List UInt8} {r : List (Nat × List UInt8)} (h : Wo p 0 = a :: r) (h1 : a.2 ≠ [97, 116, 116, 114]) (h2 : a.2 ≠ [115, 116, 97, 103, 101]) (h3 : a.2 ≠ [109, 97, 114, 107]) : par t p = none := by
  have hc := chain_of hE _ 0 (Nat.zero_le _) h
  have ht := trim_words hE
  rw [h] at ht
  obtain ⟨q, x⟩ := a
  obtain ⟨g1, _⟩ := hc
  refine par_wrong0 t ?_ ?_ ?_
  all_goals
    rw [ht, g1]
    assumption
theorem par_attr5 {p : List UInt8} {E : Nat} (hE : IsEnd p E) (t : Ty) {a : Nat × List UInt8} {r : List (Nat × List UInt8)} (h : Wo p 0 = a :: r) (h1 : a.2 = [97, 116, 116, 114]) :
    (r.length ≠ 4 → par t p = none) ∧ ∀ b c d e, r = [b, c, d, e] → par t p = if isNum c.2 = true ∧ isNum d.2 = true ∧ isNum e.2 = true then some { t with attrs := t.attrs ++ [⟨b.2, num c.2, num d.2, num e.2⟩] } else none := by
  have hc := chain_of hE _ 0 (Nat.zero_le _) h
  have ht := trim_words hE
  rw [h] at ht
  obtain ⟨q, x⟩ := a
  obtain ⟨g1, _, _, hc⟩ := hc
  unfold par par0
  rw [ht, g1]
  simp only at h1
  rw [if_pos h1]
  simp only
  unfold rdA
  rcases r with _ | ⟨⟨q1, x1⟩, r⟩
  · refine ⟨fun _ => ?_, (fun _ _ _ _ h => by cases h)⟩
    simp [Rs0, wrd_nil, num_nil]
  obtain ⟨k1, _, _, hc⟩ := hc
  simp only [k1]
  rcases r with _ | ⟨⟨q2, x2⟩, r⟩
  · refine ⟨fun _ => ?_, (fun _ _ _ _ h => by cases h)⟩
    simp [Rs0, wrd_nil, num_nil]
  obtain ⟨k2, _, _, hc⟩ := hc
  simp only [k2]
  rcases r with _ | ⟨⟨q3, x3⟩, r⟩
  · refine ⟨fun _ => ?_, (fun _ _ _ _ h => by cases h)⟩
    simp [Rs0, wrd_nil, num_nil]
  obtain ⟨k3, _, _, hc⟩ := hc
  simp only [k3]
  rcases r with _ | ⟨⟨q4, x4⟩, r⟩
  · refine ⟨fun _ => ?_, (fun _ _ _ _ h => by cases h)⟩
    simp [Rs0, wrd_nil, num_nil]
  obtain ⟨k4, _, _, hc⟩ := hc
  simp only [k4]
  rcases r with _ | ⟨⟨q5, x5⟩, r⟩
  · refine ⟨(fun h => absurd rfl h), fun b c d e h => ?_⟩
    cases h
    by_cases hn : isNum x2 = true ∧ isNum x3 = true ∧ isNum x4 = true
    · rw [if_pos ⟨hn.1, hn.2.1, hn.2.2, rfl⟩, if_pos hn]
      rfl
    · rw [if_neg (fun h => hn ⟨h.1, h.2.1, h.2.2.1⟩), if_neg hn]
      rfl
  · obtain ⟨_, k5, _, _⟩ := hc
    refine ⟨fun _ => ?_, (fun _ _ _ _ h => by cases h)⟩
    rw [if_neg (fun h => k5 h.2.2.2)]
    rfl
theorem rdR_words {p : List UInt8} {E : Nat} {r : List (Nat × List UInt8)} (hc : Chain p E r) : (r.length < 2 → rdR (Rs0 p E r) = none) ∧ ∀ b c l, r = b :: c :: l → rdR (Rs0 p E r) = some ⟨b.2, tex p c.1 E⟩ := by
  unfold rdR
  rcases r with _ | ⟨⟨q1, x1⟩, r⟩
  · exact ⟨(fun _ => by simp [Rs0, wrd_nil]), (fun _ _ _ h => by cases h)⟩
  obtain ⟨k1, _, _, hc⟩ := hc
  rw [k1]
  rcases r with _ | ⟨⟨q2, x2⟩, r⟩
  · exact ⟨(fun _ => by simp [Rs0]), (fun _ _ _ h => by cases h)⟩
  obtain ⟨_, k2, _, hc⟩ := hc
  refine ⟨(fun h => by simp at h; omega), fun b c l h => ?_⟩
  cases h
  rw [if_neg k2]
  rfl
theorem par_rules {p : List UInt8} {E : Nat} (hE : IsEnd p E) (t : Ty) {a : Nat × List UInt8} {r : List (Nat × List UInt8)} (h : Wo p 0 = a :: r) :
    (a.2 = [115, 116, 97, 103, 101] → (r.length < 2 → par t p = none) ∧ ∀ b c l, r = b :: c :: l → par t p = some { t with stages := t.stages ++ [⟨b.2, tex p c.1 E⟩] }) ∧
    (a.2 = [109, 97, 114, 107] → (r.length < 2 → par t p = none) ∧ ∀ b c l, r = b :: c :: l → par t p = some { t with marks := t.marks ++ [⟨b.2, tex p c.1 E⟩] }) := by
  have hc := chain_of hE _ 0 (Nat.zero_le _) h
  have ht := trim_words hE
  rw [h] at ht
  obtain ⟨q, x⟩ := a
  obtain ⟨g1, _, _, hc⟩ := hc
  obtain ⟨r1, r2⟩ := rdR_words hc
  unfold par par0
  rw [ht, g1]
  simp only
  refine ⟨fun hx => ?_, fun hx => ?_⟩
  · subst hx
    rw [if_neg (by decide), if_pos rfl]
    exact ⟨fun h => by rw [r1 h]; rfl, fun b c l h => by rw [r2 b c l h]; rfl⟩
  · subst hx
    rw [if_neg (by decide), if_neg (by decide), if_pos rfl]
    exact ⟨fun h => by rw [r1 h]; rfl, fun b c l h => by rw [r2 b c l h]; rfl⟩

end Go.Proofs.YtahbfffhkpojmaaDoor
