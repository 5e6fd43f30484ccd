/-
  Guards on plain bytes: words, kinds of words, what Check tells, what a guard is worth.
-/
import Derived.Test.YtnddpalngjmhnaaDoorSB
namespace Go.Proofs.YtnddpalngjmhnaaDoor
open Go.RowKit

/-- The bytes of s from q up to p. -/
def tex (s : List UInt8) (q p : Nat) : List UInt8 := (s.drop q).take (p - q)
theorem tex_length {s : List UInt8} {q p : Nat} (h : p ≤ s.length) : (tex s q p).length = p - q := by simp [tex]; omega
theorem tex_self (s : List UInt8) (q : Nat) : tex s q q = [] := by simp [tex]
theorem tex_all (s : List UInt8) : tex s 0 s.length = s := by simp [tex]
theorem tex_succ {s : List UInt8} {q p : Nat} (h : q ≤ p) (hp : p < s.length) : tex s q (p + 1) = tex s q p ++ [s[p]] := by
  unfold tex
  have e : p + 1 - q = (p - q) + 1 := by omega
  rw [e, List.take_succ_eq_append_getElem (by simp; omega)]
  congr 2
  rw [List.getElem_drop]
  congr 1
  omega
theorem tex_cut {s : List UInt8} {q p e : Nat} (h : q ≤ p) (hp : p ≤ e) (_ : e ≤ s.length) : tex s q e = tex s q p ++ tex s p e := by
  unfold tex
  have e1 : e - q = (p - q) + (e - p) := by omega
  rw [e1, List.take_add, List.drop_drop]
  congr 3
  omega
theorem tex_cons {s : List UInt8} {q e : Nat} (h : q < e) (he : e ≤ s.length) : tex s q e = s[q] :: tex s (q + 1) e := by
  rw [tex_cut (p := q + 1) (by omega) (by omega) he, tex_succ (Nat.le_refl q) (by omega), tex_self]
  rfl
theorem tex_mem {s : List UInt8} {q p : Nat} {c : UInt8} (h : c ∈ tex s q p) : ∃ i, ∃ hi : i < s.length, q ≤ i ∧ i < p ∧ s[i] = c := by
  obtain ⟨k, hk, e⟩ := List.mem_iff_getElem.1 h
  simp only [tex, List.length_take, List.length_drop] at hk
  refine ⟨q + k, by omega, by omega, by omega, ?_⟩
  rw [← e]
  simp [tex]

/-- A word ahead of others, if it has a byte. -/
def flush (p : Nat) (cur : List UInt8) (ws : List (Nat × List UInt8)) : List (Nat × List UInt8) := if cur = [] then ws else (p, cur) :: ws
/-- The bytes up to the first blank, and the words behind it with their places. -/
def wdp : Nat → List UInt8 → List UInt8 × List (Nat × List UInt8)
  | _, [] => ([], [])
  | p, c :: r => if c = 32 then ([], flush (p + 1) (wdp (p + 1) r).1 (wdp (p + 1) r).2) else (c :: (wdp (p + 1) r).1, (wdp (p + 1) r).2)
/-- The words of s from p on, with their places. -/
def Wo (s : List UInt8) (p : Nat) : List (Nat × List UInt8) := flush p (wdp p (s.drop p)).1 (wdp p (s.drop p)).2

theorem Wo_end {s : List UInt8} {p : Nat} (h : s.length ≤ p) : Wo s p = [] := by
  unfold Wo
  rw [List.drop_eq_nil_of_le h]
  rfl
theorem Wo_blank {s : List UInt8} {p : Nat} (h : p < s.length) (hc : s[p] = 32) : Wo s p = Wo s (p + 1) := by
  unfold Wo
  rw [List.drop_eq_getElem_cons h, hc]
  simp [wdp, flush]
theorem wdp_word (a : List UInt8) (ha : ∀ c ∈ a, c ≠ 32) (r : List UInt8) (hr : r = [] ∨ ∃ r', r = 32 :: r') (p : Nat) : wdp p (a ++ r) = (a, (wdp (p + a.length) r).2) ∧ (wdp (p + a.length) r).1 = [] := by
  induction a generalizing p with
  | nil =>
    rcases hr with rfl | ⟨r', rfl⟩
    · exact ⟨rfl, rfl⟩
    · simp [wdp]
  | cons c a ih =>
    have hc := ha c (List.mem_cons_self ..)
    obtain ⟨h1, h2⟩ := ih (fun x hx => ha x (List.mem_cons_of_mem _ hx)) (p + 1)
    have e : p + (c :: a).length = p + 1 + a.length := by simp; omega
    rw [e]
    refine ⟨?_, h2⟩
    rw [List.cons_append]
    simp only [wdp, if_neg hc, h1]
theorem Wo_word {s : List UInt8} {q e : Nat} (h : q < e) (he : e ≤ s.length) (hn : ∀ c ∈ tex s q e, c ≠ 32) (hb : ∀ h : e < s.length, s[e] = 32) : Wo s q = (q, tex s q e) :: Wo s e := by
  have hd : s.drop q = tex s q e ++ s.drop e := by
    have e1 : s.drop e = (s.drop q).drop (e - q) := by rw [List.drop_drop]; congr 1; omega
    rw [e1, tex, List.take_append_drop]
  have hr : s.drop e = [] ∨ ∃ r', s.drop e = 32 :: r' := by
    by_cases hl : e < s.length
    · exact .inr ⟨s.drop (e + 1), by rw [List.drop_eq_getElem_cons hl, hb hl]⟩
    · exact .inl (List.drop_eq_nil_of_le (by omega))
  obtain ⟨h1, h2⟩ := wdp_word (tex s q e) hn (s.drop e) hr q
  have hl : q + (tex s q e).length = e := by rw [tex_length he]; omega
  rw [hl] at h1 h2
  have hne : tex s q e ≠ [] := by
    intro h0
    have := tex_length (q := q) he
    rw [h0] at this
    simp at this
    omega
  unfold Wo
  rw [hd, h1]
  simp only [flush, if_neg hne, h2]
  simp

/-- The same without places. -/
def fl (cur : List UInt8) (ws : List (List UInt8)) : List (List UInt8) := if cur = [] then ws else cur :: ws
def wd : List UInt8 → List UInt8 × List (List UInt8)
  | [] => ([], [])
  | c :: r => if c = 32 then ([], fl (wd r).1 (wd r).2) else (c :: (wd r).1, (wd r).2)
/-- The words of a text. -/
def tx (s : List UInt8) : List (List UInt8) := fl (wd s).1 (wd s).2
theorem flush_snd (p : Nat) (cur : List UInt8) (ws : List (Nat × List UInt8)) : (flush p cur ws).map Prod.snd = fl cur (ws.map Prod.snd) := by
  unfold flush fl
  split <;> rfl
theorem wdp_snd (s : List UInt8) (p : Nat) : (wdp p s).1 = (wd s).1 ∧ (wdp p s).2.map Prod.snd = (wd s).2 := by
  induction s generalizing p with
  | nil => exact ⟨rfl, rfl⟩
  | cons c r ih =>
    obtain ⟨h1, h2⟩ := ih (p + 1)
    unfold wdp wd
    split
    · exact ⟨rfl, by rw [flush_snd, h1, h2]⟩
    · exact ⟨by rw [h1], h2⟩
theorem Wo_tx (s : List UInt8) : (Wo s 0).map Prod.snd = tx s := by
  unfold Wo tx
  rw [List.drop_zero, flush_snd, (wdp_snd s 0).1, (wdp_snd s 0).2]
theorem fl_append (cur : List UInt8) (a b : List (List UInt8)) : fl cur (a ++ b) = fl cur a ++ b := by
  unfold fl
  split <;> rfl
theorem wd_join (a b : List UInt8) : wd (a ++ 32 :: b) = ((wd a).1, (wd a).2 ++ tx b) := by
  induction a with
  | nil => simp [wd, tx]
  | cons c a ih =>
    rw [List.cons_append]
    unfold wd
    rw [ih]
    split
    · rw [fl_append]
    · rfl
/-- What a blank parts. -/
theorem tx_join (a b : List UInt8) : tx (a ++ 32 :: b) = tx a ++ tx b := by
  unfold tx
  rw [wd_join, fl_append]
  rfl
theorem wd_none (a : List UInt8) (h : ∀ c ∈ a, c ≠ 32) : wd a = (a, []) := by
  induction a with
  | nil => rfl
  | cons c a ih =>
    unfold wd
    rw [ih (fun x hx => h x (List.mem_cons_of_mem _ hx)), if_neg (h c (List.mem_cons_self ..))]
theorem tx_one (a : List UInt8) (h : ∀ c ∈ a, c ≠ 32) (h0 : a ≠ []) : tx a = [a] := by
  unfold tx
  rw [wd_none a h]
  simp [fl, h0]

/-- Kinds of bytes. -/
def isL (c : UInt8) : Bool := decide (97 ≤ c.toNat) && decide (c.toNat ≤ 122)
def isD (c : UInt8) : Bool := decide (48 ≤ c.toNat) && decide (c.toNat ≤ 57)
theorem isL_not {c : UInt8} (h : isL c = true) : isD c = false ∧ c ≠ 32 ∧ c ≠ 45 := by
  simp only [isL, Bool.and_eq_true, decide_eq_true_eq] at h
  refine ⟨?_, ?_, ?_⟩
  · simp [isD]; omega
  · rintro rfl; revert h; decide
  · rintro rfl; revert h; decide
theorem isD_not {c : UInt8} (h : isD c = true) : isL c = false ∧ c ≠ 32 ∧ c ≠ 45 := by
  simp only [isD, Bool.and_eq_true, decide_eq_true_eq] at h
  refine ⟨?_, ?_, ?_⟩
  · simp [isL]; omega
  · rintro rfl; revert h; decide
  · rintro rfl; revert h; decide

/-- Which operation a word is; nought: none. -/
def opOf (x : List UInt8) : Nat :=
  if x = [110, 111, 116] then 4 else if x = [97, 110, 100] then 5 else if x = [111, 114] then 6 else if x = [108, 116] then 7 else if x = [101, 113] then 8 else if x = [97, 100, 100] then 9 else if x = [115, 117, 98] then 10 else 0
/-- A word of types. -/
def isT (x : List UInt8) : Bool := decide (x = [116, 121, 112, 101]) || decide (x = [97, 116, 116, 114]) || decide (x = [115, 116, 97, 103, 101]) || decide (x = [109, 97, 114, 107])
def isName (x : List UInt8) : Bool := x.all isL && decide (1 ≤ x.length) && decide (x.length ≤ 12) && decide (opOf x = 0) && !isT x
/-- What stands behind a minus, if there is one. -/
def mag (x : List UInt8) : List UInt8 := if x.head? = some 45 then x.tail else x
def digs (x : List UInt8) : Nat := x.foldl (fun n c => 10 * n + (c.toNat - 48)) 0
def isNum (x : List UInt8) : Bool := (mag x).all isD && decide (1 ≤ (mag x).length) && decide ((mag x).length ≤ 4)
def num (x : List UInt8) : Int := if x.head? = some 45 then -(digs (mag x) : Int) else (digs (mag x) : Int)
/-- Which kind of word: 1 none, 2 a number, 3 a name, else an operation. -/
def kd (x : List UInt8) : Nat := if isNum x = true then 2 else if opOf x ≠ 0 then opOf x else if isName x = true then 3 else 1
/-- Of how many guards. -/
def ar (k : Nat) : Nat := if k = 4 then 1 else if 5 ≤ k then 2 else 0

theorem opOf_cases (x : List UInt8) : opOf x = 0 ∨ (4 ≤ opOf x ∧ opOf x ≤ 10 ∧ x.all isL = true ∧ x ≠ []) := by
  unfold opOf
  repeat' split
  all_goals first
    | (left; rfl)
    | (right; subst_vars; decide)
theorem kd_cases (x : List UInt8) : 1 ≤ kd x ∧ kd x ≤ 10 := by
  unfold kd
  have := opOf_cases x
  repeat' split
  all_goals omega
/-- Small letters are no number. -/
theorem letters_num {x : List UInt8} (h : x.all isL = true) (h0 : x ≠ []) : isNum x = false := by
  cases x with
  | nil => exact absurd rfl h0
  | cons c r =>
    rw [List.all_cons, Bool.and_eq_true] at h
    obtain ⟨h1, h2, h3⟩ := isL_not h.1
    have e : mag (c :: r) = c :: r := by simp [mag, h3]
    unfold isNum
    rw [e, List.all_cons, h1]
    rfl
theorem isName_all {x : List UInt8} (h : isName x = true) : x.all isL = true ∧ 1 ≤ x.length ∧ x.length ≤ 12 ∧ opOf x = 0 ∧ isT x = false := by
  simp only [isName, Bool.and_eq_true, decide_eq_true_eq, Bool.not_eq_true'] at h
  exact ⟨h.1.1.1.1, h.1.1.1.2, h.1.1.2, h.1.2, h.2⟩
theorem kd_name (x : List UInt8) : kd x = 3 ↔ isName x = true := by
  constructor
  · intro h
    unfold kd at h
    split at h
    · cases h
    · split at h
      · have := opOf_cases x; omega
      · split at h
        · assumption
        · cases h
  · intro h
    obtain ⟨h1, h2, _, h3, _⟩ := isName_all h
    have h4 := letters_num h1 (by rintro rfl; simp at h2)
    simp [kd, h3, h4, h]
theorem kd_num (x : List UInt8) : kd x = 2 ↔ isNum x = true := by
  constructor
  · intro h
    unfold kd at h
    split at h
    · assumption
    · split at h
      · have := opOf_cases x; omega
      · split at h <;> cases h
  · intro h
    simp [kd, h]
theorem kd_op (x : List UInt8) (h : 4 ≤ kd x) : opOf x = kd x := by
  unfold kd at h ⊢
  repeat' split
  all_goals first | rfl | simp_all
theorem op_kd (x : List UInt8) (h : opOf x ≠ 0) : kd x = opOf x := by
  have h1 := opOf_cases x
  have h2 := letters_num (x := x) (by rcases h1 with h1 | h1; exact absurd h1 h; exact h1.2.2.1) (by rcases h1 with h1 | h1; exact absurd h1 h; exact h1.2.2.2)
  simp [kd, h2, h]
theorem num_fits (x : List UInt8) : isNum x = true → -9999 ≤ num x ∧ num x ≤ 9999 := by
  intro h
  simp only [isNum, Bool.and_eq_true, decide_eq_true_eq] at h
  obtain ⟨⟨h1, _⟩, h3⟩ := h
  have hb : ∀ (l : List UInt8) (n : Nat), l.all isD = true → l.foldl (fun n c => 10 * n + (c.toNat - 48)) n + 1 ≤ (n + 1) * 10 ^ l.length := by
    intro l
    induction l with
    | nil => intro n _; simp
    | cons c l ih =>
      intro n hl
      rw [List.all_cons, Bool.and_eq_true] at hl
      have hc := hl.1
      simp only [isD, Bool.and_eq_true, decide_eq_true_eq] at hc
      have := ih (10 * n + (c.toNat - 48)) hl.2
      rw [List.foldl_cons, List.length_cons, Nat.pow_succ]
      refine Nat.le_trans this ?_
      rw [Nat.mul_comm (10 ^ l.length) 10, ← Nat.mul_assoc]
      exact Nat.mul_le_mul_right _ (by omega)
  have h4 := hb (mag x) 0 h1
  have h5 : 10 ^ (mag x).length ≤ 10 ^ 4 := Nat.pow_le_pow_right (by decide) h3
  unfold num digs
  split <;> omega

end Go.Proofs.YtnddpalngjmhnaaDoor
