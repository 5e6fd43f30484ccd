/-
  Who holds which case, plainly.
-/
import Derived.Test.YtkinpgkckbocpaaQRise
namespace Go.Proofs.Ytkinpgkckbocpaa

/-- How transactions hold cases: by cases, then by transactions; whether to write. -/
abbrev Lk := List UInt8 → List UInt8 → Option Bool
/-- Another one than x holds c in a way that goes ill with a want. -/
def Ill (h : Lk) (x c : List UInt8) (wr : Bool) : Prop := ∃ y v, y ≠ x ∧ h c y = some v ∧ (v = true ∨ wr = true)
def give (h : Lk) (x c : List UInt8) (wr : Bool) : Lk := fun c' y => if c' = c ∧ y = x then some ((h c x).getD false || wr) else h c' y
def gives (h : Lk) (x : List UInt8) : List (List UInt8 × Bool) → Lk
  | [] => h
  | w :: l => gives (give h x w.1 w.2) x l
def freed (h : Lk) (x : List UInt8) : Lk := fun c y => if y = x then none else h c y
/-- Of a case there is one writer and nobody else, or readers. -/
def Alone (h : Lk) : Prop := ∀ c x y, h c x = some true → h c y ≠ none → y = x
/-- What Take answers and leaves. -/
def Takes (h : Lk) (x : List UInt8) (l : List (List UInt8 × Bool)) (e : Int) (h' : Lk) : Prop :=
  (x = [] ∧ e = 1 ∧ h' = h) ∨ (x ≠ [] ∧ (∃ w ∈ l, Ill h x w.1 w.2) ∧ e = 35 ∧ h' = h) ∨ (x ≠ [] ∧ (∀ w ∈ l, ¬ Ill h x w.1 w.2) ∧ e = 0 ∧ h' = gives h x l)
/-- What Writer answers. -/
def Writes (h : Lk) (c v : List UInt8) (ok : Bool) : Prop := (ok = true ∧ h c v = some true) ∨ (ok = false ∧ v = [] ∧ ∀ y, h c y ≠ some true)
/-- What Holders, Held and All answer. -/
def Hol (h : Lk) (c : List UInt8) (us : List (List UInt8)) : Prop := Rises us ∧ ∀ y, y ∈ us ↔ h c y ≠ none
def Hel (h : Lk) (x : List UInt8) (us : List (List UInt8)) : Prop := Rises us ∧ ∀ c, c ∈ us ↔ h c x ≠ none
def Als (h : Lk) (us : List (List UInt8)) : Prop := Rises us ∧ ∀ y, y ∈ us ↔ ∃ c, h c y ≠ none
/-- Whether somebody holds something. -/
def Some1 (h : Lk) (x : List UInt8) : Prop := ∃ c, h c x ≠ none

theorem Takes.unique {h : Lk} {x : List UInt8} {l : List (List UInt8 × Bool)} {e e' : Int} {h1 h2 : Lk} (a : Takes h x l e h1) (b : Takes h x l e' h2) : e = e' ∧ h1 = h2 := by
  rcases a with ⟨a1, rfl, rfl⟩ | ⟨a1, ⟨w, hw, a2⟩, rfl, rfl⟩ | ⟨a1, a2, rfl, rfl⟩ <;> rcases b with ⟨b1, rfl, rfl⟩ | ⟨b1, ⟨w', hw', b2⟩, rfl, rfl⟩ | ⟨b1, b2, rfl, rfl⟩
  · exact ⟨rfl, rfl⟩
  · exact absurd a1 b1
  · exact absurd a1 b1
  · exact absurd b1 a1
  · exact ⟨rfl, rfl⟩
  · exact absurd a2 (b2 w hw)
  · exact absurd b1 a1
  · exact absurd b2 (a2 w' hw')
  · exact ⟨rfl, rfl⟩
theorem Writes.unique {h : Lk} (ha : Alone h) {c v v' : List UInt8} {ok ok' : Bool} (a : Writes h c v ok) (b : Writes h c v' ok') : v = v' ∧ ok = ok' := by
  rcases a with ⟨rfl, a⟩ | ⟨rfl, rfl, a⟩ <;> rcases b with ⟨rfl, b⟩ | ⟨rfl, rfl, b⟩
  · exact ⟨ha c v' v b (by rw [a]; simp), rfl⟩
  · exact absurd a (b v)
  · exact absurd b (a v')
  · exact ⟨rfl, rfl⟩
theorem Hol.unique {h : Lk} {c : List UInt8} {us vs : List (List UInt8)} (a : Hol h c us) (b : Hol h c vs) : us = vs := rises_unique us vs a.1 b.1 fun y => by rw [a.2 y, b.2 y]
theorem Hel.unique {h : Lk} {x : List UInt8} {us vs : List (List UInt8)} (a : Hel h x us) (b : Hel h x vs) : us = vs := rises_unique us vs a.1 b.1 fun y => by rw [a.2 y, b.2 y]
theorem Als.unique {h : Lk} {us vs : List (List UInt8)} (a : Als h us) (b : Als h vs) : us = vs := rises_unique us vs a.1 b.1 fun y => by rw [a.2 y, b.2 y]

theorem give_self (h : Lk) (x c : List UInt8) (wr : Bool) : give h x c wr c x = some ((h c x).getD false || wr) := by simp [give]
theorem give_other (h : Lk) (x c : List UInt8) (wr : Bool) {c' y : List UInt8} (hne : ¬ (c' = c ∧ y = x)) : give h x c wr c' y = h c' y := by simp [give, hne]
theorem give_none {h : Lk} {x c c' y : List UInt8} {wr : Bool} : give h x c wr c' y ≠ none ↔ h c' y ≠ none ∨ (c' = c ∧ y = x) := by
  by_cases e : c' = c ∧ y = x
  · obtain ⟨rfl, rfl⟩ := e
    rw [give_self]
    simp
  · rw [give_other _ _ _ _ e]
    simp [e]
/-- Others hold what they held. -/
theorem gives_other {h : Lk} {x y : List UInt8} (hy : y ≠ x) (l : List (List UInt8 × Bool)) (c : List UInt8) : gives h x l c y = h c y := by
  induction l generalizing h with
  | nil => rfl
  | cons w l ih => rw [gives, ih, give_other _ _ _ _ (fun e => hy e.2)]
theorem gives_none {h : Lk} {x c : List UInt8} {l : List (List UInt8 × Bool)} : gives h x l c x ≠ none ↔ h c x ≠ none ∨ ∃ w ∈ l, w.1 = c := by
  induction l generalizing h with
  | nil => simp [gives]
  | cons w l ih =>
    rw [gives, ih, give_none]
    constructor
    · rintro ((h1 | ⟨rfl, _⟩) | ⟨v, hv, e⟩)
      · exact .inl h1
      · exact .inr ⟨w, List.mem_cons_self .., rfl⟩
      · exact .inr ⟨v, List.mem_cons_of_mem _ hv, e⟩
    · rintro (h1 | ⟨v, hv, e⟩)
      · exact .inl (.inl h1)
      · rcases List.mem_cons.1 hv with rfl | hv
        · exact .inl (.inr ⟨e.symm, rfl⟩)
        · exact .inr ⟨v, hv, e⟩
theorem gives_wrote {h : Lk} {x c : List UInt8} {l : List (List UInt8 × Bool)} : gives h x l c x = some true ↔ h c x = some true ∨ ∃ w ∈ l, w.1 = c ∧ w.2 = true := by
  induction l generalizing h with
  | nil => simp [gives]
  | cons w l ih =>
    rw [gives, ih]
    have e : give h x w.1 w.2 c x = some true ↔ h c x = some true ∨ (w.1 = c ∧ w.2 = true) := by
      by_cases e : c = w.1
      · subst e
        rw [give_self]
        cases hv : h w.1 x with
        | none => simp
        | some v => cases v <;> simp
      · rw [give_other _ _ _ _ (fun z => e z.1)]
        simp [Ne.symm e]
    rw [e]
    constructor
    · rintro ((h1 | h1) | ⟨v, hv, e2⟩)
      · exact .inl h1
      · exact .inr ⟨w, List.mem_cons_self .., h1⟩
      · exact .inr ⟨v, List.mem_cons_of_mem _ hv, e2⟩
    · rintro (h1 | ⟨v, hv, e2⟩)
      · exact .inl (.inl h1)
      · rcases List.mem_cons.1 hv with rfl | hv
        · exact .inl (.inr e2)
        · exact .inr ⟨v, hv, e2⟩
theorem gives_alone {h : Lk} (ha : Alone h) {x : List UInt8} {l : List (List UInt8 × Bool)} (hl : ∀ w ∈ l, ¬ Ill h x w.1 w.2) : Alone (gives h x l) := by
  intro c a b h1 h2
  by_cases hax : a = x
  · subst hax
    refine Classical.byContradiction fun hb => ?_
    rw [gives_other hb] at h2
    rcases gives_wrote.1 h1 with h1 | ⟨w, hw, rfl, e⟩
    · exact hb (ha c a b h1 h2)
    · obtain ⟨v, hv⟩ := Option.ne_none_iff_exists'.1 h2
      exact hl w hw ⟨b, v, hb, hv, .inr e⟩
  · rw [gives_other hax] at h1
    by_cases hbx : b = x
    · subst hbx
      rcases gives_none.1 h2 with h2 | ⟨w, hw, rfl⟩
      · exact ha c a b h1 h2
      · exact absurd ⟨a, true, hax, h1, .inl rfl⟩ (hl w hw)
    · rw [gives_other hbx] at h2
      exact ha c a b h1 h2
theorem Takes.alone {h h' : Lk} (ha : Alone h) {x : List UInt8} {l : List (List UInt8 × Bool)} {e : Int} (t : Takes h x l e h') : Alone h' := by
  rcases t with ⟨_, _, rfl⟩ | ⟨_, _, _, rfl⟩ | ⟨_, hl, _, rfl⟩
  · exact ha
  · exact ha
  · exact gives_alone ha hl
theorem freed_alone {h : Lk} (ha : Alone h) (x : List UInt8) : Alone (freed h x) := by
  intro c a b h1 h2
  unfold freed at h1 h2
  split at h1
  · cases h1
  · split at h2
    · exact absurd rfl h2
    · exact ha c a b h1 h2
theorem freed_none {h : Lk} {x c y : List UInt8} : freed h x c y ≠ none ↔ h c y ≠ none ∧ y ≠ x := by
  unfold freed
  split
  · rename_i e
    simp [e]
  · rename_i e
    simp [e]
theorem nobody_alone : Alone (fun _ _ => none) := fun c x y h _ => by cases h
/-- Who holds something behind a Take: x alone may be new. -/
theorem Takes.some {h h' : Lk} {x : List UInt8} {l : List (List UInt8 × Bool)} {e : Int} (t : Takes h x l e h') {c y : List UInt8} (hn : h' c y ≠ none) : h c y ≠ none ∨ (y = x ∧ ∃ w ∈ l, w.1 = c) := by
  rcases t with ⟨_, _, rfl⟩ | ⟨_, _, _, rfl⟩ | ⟨_, hl, _, rfl⟩
  · exact .inl hn
  · exact .inl hn
  · by_cases hy : y = x
    · subst hy
      rcases gives_none.1 hn with h1 | h1
      · exact .inl h1
      · exact .inr ⟨rfl, h1⟩
    · rw [gives_other hy] at hn
      exact .inl hn
theorem Takes.refused {h h' : Lk} {x : List UInt8} {l : List (List UInt8 × Bool)} {e : Int} (t : Takes h x l e h') (he : e ≠ 0) : h' = h := by
  rcases t with ⟨_, _, rfl⟩ | ⟨_, _, _, rfl⟩ | ⟨_, _, rfl, _⟩
  · rfl
  · rfl
  · exact absurd rfl he
/-- A writer is the one holder. -/
theorem Hol.one {h : Lk} (ha : Alone h) {c v : List UInt8} {us : List (List UInt8)} (a : Hol h c us) (b : h c v = some true) : us = [v] := by
  refine rises_unique us [v] a.1 (by simp [Rises]) fun y => ?_
  rw [a.2 y, List.mem_singleton]
  constructor
  · exact fun hy => ha c v y b hy
  · rintro rfl
    rw [b]
    simp

end Go.Proofs.Ytkinpgkckbocpaa
