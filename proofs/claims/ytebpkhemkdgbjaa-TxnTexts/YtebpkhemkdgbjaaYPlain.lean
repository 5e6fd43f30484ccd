/-
  A transaction plainly: whose its operations are, who voted, what is kept of the texts; votes, acknowledgements.
-/
import Derived.Test.YtebpkhemkdgbjaaMSp
namespace Go.Proofs.Ytebpkhemkdgbjaa
open Go.RowKit

/-- Some of three groups. -/
structure B3 where
  a : Bool
  b : Bool
  c : Bool
def B3.none : B3 := ⟨false, false, false⟩
def B3.at (s : B3) : Nat → Bool
  | 0 => s.a
  | 1 => s.b
  | 2 => s.c
  | _ => false
def B3.set (s : B3) : Nat → B3
  | 0 => ⟨true, s.b, s.c⟩
  | 1 => ⟨s.a, true, s.c⟩
  | 2 => ⟨s.a, s.b, true⟩
  | _ => s
theorem B3.ext {s t : B3} (h : ∀ g, g < 3 → s.at g = t.at g) : s = t := by
  obtain ⟨a, b, c⟩ := s
  obtain ⟨x, y, z⟩ := t
  have h0 := h 0 (by decide)
  have h1 := h 1 (by decide)
  have h2 := h 2 (by decide)
  simp only [B3.at] at h0 h1 h2
  rw [h0, h1, h2]
theorem B3.at_set (s : B3) (g i : Nat) (hg : g < 3) : (s.set g).at i = if i = g then true else s.at i := by
  have hc : g = 0 ∨ g = 1 ∨ g = 2 := by omega
  rcases hc with rfl | rfl | rfl
  · match i with
    | 0 => rfl
    | 1 => rfl
    | 2 => rfl
    | n + 3 => simp [B3.at]
  · match i with
    | 0 => rfl
    | 1 => rfl
    | 2 => rfl
    | n + 3 => simp [B3.at]
  · match i with
    | 0 => rfl
    | 1 => rfl
    | 2 => rfl
    | n + 3 => simp [B3.at]
theorem B3.at_none (i : Nat) : B3.none.at i = false := by
  match i with
  | 0 => rfl
  | 1 => rfl
  | 2 => rfl
  | n + 3 => rfl
def B3.eqv (s t : B3) : Bool := (s.a == t.a) && ((s.b == t.b) && (s.c == t.c))
theorem B3.eqv_iff {s t : B3} : B3.eqv s t = true ↔ s = t := by
  obtain ⟨a, b, c⟩ := s
  obtain ⟨x, y, z⟩ := t
  simp [B3.eqv]
def B3.cells (s : B3) : List Value := [.bool s.a, .bool s.b, .bool s.c]
def B3.val (s : B3) : Value := .agg #[.bool s.a, .bool s.b, .bool s.c]

/-- A transaction. -/
structure Tn where
  ow : List Nat
  tx : List (List UInt8)
  vo : B3
  dn : B3
  oc : Int
  ar : Int
  wy : Int

/-- Whose operation k is. -/
def oh (ow : List Nat) (k : Nat) : Int := match ow[k]? with | some g => (g : Int) | none => -1
theorem oh_at {ow : List Nat} {k : Nat} (h : k < ow.length) : oh ow k = (ow[k] : Int) := by simp [oh, h]
/-- The groups that vote. -/
def memO (ow : List Nat) : B3 := ⟨decide (0 ∈ ow), decide (1 ∈ ow), decide (2 ∈ ow)⟩
theorem memO_at (ow : List Nat) (g : Nat) (hg : g < 3) : (memO ow).at g = decide (g ∈ ow) := by
  have hc : g = 0 ∨ g = 1 ∨ g = 2 := by omega
  rcases hc with rfl | rfl | rfl <;> rfl
theorem memO_nil : memO [] = B3.none := rfl
theorem memO_snoc (ow : List Nat) (g : Nat) (hg : g < 3) : memO (ow ++ [g]) = (memO ow).set g := by
  refine B3.ext (fun i hi => ?_)
  rw [memO_at _ _ hi, B3.at_set _ _ _ hg, memO_at _ _ hi]
  by_cases e : i = g
  · simp [e]
  · simp [e]
def hasG (s : B3) (g : Int) : Bool := decide (0 ≤ g) && (decide (g < 3) && s.at g.toNat)
theorem hasG_nat (s : B3) (g : Nat) (hg : g < 3) : hasG s (g : Int) = s.at g := by
  have h1 : (0 : Int) ≤ (g : Int) := by omega
  have h2 : (g : Int) < 3 := by omega
  simp [hasG, h1, h2]
theorem hasG_yes {s : B3} {g : Int} (h : hasG s g = true) : ∃ n : Nat, n < 3 ∧ g = (n : Int) ∧ s.at n = true := by
  simp [hasG] at h
  exact ⟨g.toNat, by omega, by omega, h.2.2⟩
/-- Those of s that are not of x, rising, of the first m. -/
def butG (s x : B3) (m : Nat) : List Nat := (List.range m).filter fun g => s.at g && !x.at g
theorem butG_zero (s x : B3) : butG s x 0 = [] := rfl
theorem butG_yes (s x : B3) (m : Nat) (h : (s.at m && !x.at m) = true) : butG s x (m + 1) = butG s x m ++ [m] := by
  unfold butG
  rw [List.range_succ, List.filter_append]
  simp at h
  simp [h]
theorem butG_no (s x : B3) (m : Nat) (h : (s.at m && !x.at m) = false) : butG s x (m + 1) = butG s x m := by
  unfold butG
  rw [List.range_succ, List.filter_append]
  simp [h]
theorem butG_most (s x : B3) (m : Nat) : (butG s x m).length ≤ m := by
  have := List.length_filter_le (fun g => s.at g && !x.at g) (List.range m)
  simpa [butG] using this
theorem butG_mem {s x : B3} {m g : Nat} (h : g ∈ butG s x m) : g < m ∧ s.at g = true ∧ x.at g = false := by
  unfold butG at h
  obtain ⟨h1, h2⟩ := List.mem_filter.1 h
  simp at h2
  exact ⟨List.mem_range.1 h1, h2.1, h2.2⟩
theorem butG_nil {s x : B3} : butG s x 3 = [] ↔ ∀ g, g < 3 → s.at g = true → x.at g = true := by
  constructor
  · intro h g hg hs
    by_cases hx : x.at g = true
    · exact hx
    · have : g ∈ butG s x 3 := List.mem_filter.2 ⟨List.mem_range.2 hg, by simp [hs, hx]⟩
      rw [h] at this
      cases this
  · intro h
    refine List.eq_nil_iff_forall_not_mem.2 (fun g hg => ?_)
    obtain ⟨h1, h2, h3⟩ := butG_mem hg
    rw [h g h1 h2] at h3
    cases h3
/-- The places of a group's operations. -/
theorem idx_oh (ow : List Nat) (n g k : Nat) (hn : n ≤ ow.length) : k ∈ idx (oh ow) n g ↔ k < n ∧ ow[k]? = some g := by
  unfold idx
  rw [List.mem_filter, List.mem_range]
  constructor
  · rintro ⟨h1, h2⟩
    refine ⟨h1, ?_⟩
    have hk : k < ow.length := by omega
    rw [oh_at hk] at h2
    have : (ow[k] : Int) = (g : Int) := by simpa using h2
    rw [List.getElem?_eq_getElem hk]
    simp
    omega
  · rintro ⟨h1, h2⟩
    refine ⟨h1, ?_⟩
    simp [oh, h2]
theorem grp_oh (ow : List Nat) : grp (oh ow) ow.length 3 = butG (memO ow) B3.none 3 := by
  unfold grp butG
  refine List.filter_congr (fun g hg => ?_)
  have hg3 := List.mem_range.1 hg
  rw [memO_at _ _ hg3, B3.at_none]
  by_cases h : g ∈ ow
  · obtain ⟨k, hk, e⟩ := List.getElem_of_mem h
    have : k ∈ idx (oh ow) ow.length g := (idx_oh ow _ g k (Nat.le_refl _)).2 ⟨hk, by rw [List.getElem?_eq_getElem hk, e]⟩
    cases hq : idx (oh ow) ow.length g with
    | nil => rw [hq] at this; cases this
    | cons _ _ => simp [h]
  · cases hq : idx (oh ow) ow.length g with
    | nil => simp [h]
    | cons k _ =>
      have : k ∈ idx (oh ow) ow.length g := by rw [hq]; simp
      have h2 := ((idx_oh ow _ g k (Nat.le_refl _)).1 this).2
      exact absurd (List.mem_of_getElem? h2) h

/-- Texts laid at places. -/
def puts : List Nat → List (List UInt8) → List (List UInt8) → List (List UInt8)
  | i :: is, x :: xs, t => puts is xs (t.set i x)
  | _, _, t => t
theorem puts_length : ∀ (is : List Nat) (xs t : List (List UInt8)), (puts is xs t).length = t.length
  | [], _, _ => by simp [puts]
  | _ :: _, [], _ => by simp [puts]
  | i :: is, x :: xs, t => by rw [puts, puts_length]; simp
theorem puts_snoc : ∀ (is : List Nat) (k : Nat) (xs t : List (List UInt8)) (h : is.length < xs.length), puts (is ++ [k]) xs t = (puts is xs t).set k xs[is.length]
  | [], k, x :: xs, t, _ => by simp [puts]
  | i :: is, k, x :: xs, t, h => by
    rw [List.cons_append, puts, puts_snoc is k xs _ (by simpa using h), puts]
    simp
theorem puts_get_no : ∀ (is : List Nat) (xs t : List (List UInt8)) (k : Nat), k ∉ is → (puts is xs t)[k]? = t[k]?
  | [], _, _, _, _ => by simp [puts]
  | _ :: _, [], _, _, _ => by simp [puts]
  | i :: is, x :: xs, t, k, h => by
    rw [puts, puts_get_no is xs _ k (fun q => h (by simp [q])), List.getElem?_set_ne (fun q => h (by simp [q]))]
theorem puts_take : ∀ (is : List Nat) (xs t : List (List UInt8)), is.length ≤ xs.length → puts is xs t = puts is (xs.take is.length) t
  | [], _, _, _ => by simp [puts]
  | i :: is, [], t, h => by simp at h
  | i :: is, x :: xs, t, h => by
    rw [puts, List.length_cons, List.take_succ_cons, puts, ← puts_take is xs _ (by simpa using h)]
theorem puts_get : ∀ (is : List Nat) (xs t : List (List UInt8)) (j : Nat) (hj : j < is.length) (hl : is.length ≤ xs.length), is.Nodup → (∀ i ∈ is, i < t.length) → (puts is xs t)[is[j]]? = some xs[j]
  | i :: is, x :: xs, t, 0, _, _, hn, hi => by
    rw [puts]
    simp only [List.getElem_cons_zero]
    rw [puts_get_no is xs _ i (List.nodup_cons.1 hn).1]
    simp [hi i (by simp)]
  | i :: is, x :: xs, t, j + 1, hj, hl, hn, hi => by
    rw [puts]
    simp only [List.getElem_cons_succ]
    exact puts_get is xs _ j (by simpa using hj) (by simpa using hl) (List.nodup_cons.1 hn).2 (fun q hq => by simpa using hi q (by simp [hq]))

def passesP (wy : Int) : Bool := wy == 35 || wy == 36
/-- Nothing is done. -/
def Tn.stop (z : Tn) (oc : Int) : Tn := { z with oc := oc, vo := B3.none, tx := z.tx.map fun _ => [] }
/-- A yes. -/
def Tn.keep (z : Tn) (g : Nat) (xs : List (List UInt8)) : Tn := { z with vo := z.vo.set g, tx := puts (idx (oh z.ow) z.ow.length g) xs z.tx }
def Tn.vote (z : Tn) (g : Int) (yes : Bool) (xs : List (List UInt8)) (ar wy : Int) : Tn :=
  if z.oc ≠ 0 ∨ hasG (memO z.ow) g = false ∨ hasG z.vo g = true then z
  else if yes = false then (if passesP wy = true then z.stop 2 else { z.stop 3 with ar := ar, wy := wy })
  else if xs.length ≠ (idx (oh z.ow) z.ow.length g.toNat).length then z
  else if B3.eqv (z.vo.set g.toNat) (memO z.ow) = true then { z.keep g.toNat xs with oc := 1 } else z.keep g.toNat xs
theorem vote_nothing {z : Tn} {g : Int} {yes : Bool} {xs : List (List UInt8)} {ar wy : Int} (h : z.oc ≠ 0 ∨ hasG (memO z.ow) g = false ∨ hasG z.vo g = true) : z.vote g yes xs ar wy = z := if_pos h
theorem vote_open {z : Tn} {n : Nat} (yes : Bool) (xs : List (List UInt8)) (ar wy : Int) (h0 : z.oc = 0) (h1 : hasG (memO z.ow) (n : Int) = true) (h2 : hasG z.vo (n : Int) = false) :
    z.vote (n : Int) yes xs ar wy = if yes = false then (if passesP wy = true then z.stop 2 else { z.stop 3 with ar := ar, wy := wy }) else if xs.length ≠ (idx (oh z.ow) z.ow.length n).length then z else if B3.eqv (z.vo.set n) (memO z.ow) = true then { z.keep n xs with oc := 1 } else z.keep n xs := by
  unfold Tn.vote
  rw [if_neg (by simp [h0, h1, h2])]
  rfl
theorem vote_no_again {z : Tn} {n : Nat} {xs : List (List UInt8)} {ar wy : Int} (h0 : z.oc = 0) (h1 : hasG (memO z.ow) (n : Int) = true) (h2 : hasG z.vo (n : Int) = false) (hp : passesP wy = true) : z.vote (n : Int) false xs ar wy = z.stop 2 := by
  rw [vote_open _ _ _ _ h0 h1 h2, if_pos rfl, if_pos hp]
theorem vote_no {z : Tn} {n : Nat} {xs : List (List UInt8)} {ar wy : Int} (h0 : z.oc = 0) (h1 : hasG (memO z.ow) (n : Int) = true) (h2 : hasG z.vo (n : Int) = false) (hp : passesP wy = false) : z.vote (n : Int) false xs ar wy = { z.stop 3 with ar := ar, wy := wy } := by
  rw [vote_open _ _ _ _ h0 h1 h2, if_pos rfl, if_neg (by simp [hp])]
theorem vote_long {z : Tn} {n : Nat} {xs : List (List UInt8)} {ar wy : Int} (h0 : z.oc = 0) (h1 : hasG (memO z.ow) (n : Int) = true) (h2 : hasG z.vo (n : Int) = false) (hl : xs.length ≠ (idx (oh z.ow) z.ow.length n).length) : z.vote (n : Int) true xs ar wy = z := by
  rw [vote_open _ _ _ _ h0 h1 h2, if_neg (by simp), if_pos hl]
theorem vote_all {z : Tn} {n : Nat} {xs : List (List UInt8)} {ar wy : Int} (h0 : z.oc = 0) (h1 : hasG (memO z.ow) (n : Int) = true) (h2 : hasG z.vo (n : Int) = false) (hl : xs.length = (idx (oh z.ow) z.ow.length n).length) (he : B3.eqv (z.vo.set n) (memO z.ow) = true) : z.vote (n : Int) true xs ar wy = { z.keep n xs with oc := 1 } := by
  rw [vote_open _ _ _ _ h0 h1 h2, if_neg (by simp), if_neg (by simp [hl]), if_pos he]
theorem vote_kept {z : Tn} {n : Nat} {xs : List (List UInt8)} {ar wy : Int} (h0 : z.oc = 0) (h1 : hasG (memO z.ow) (n : Int) = true) (h2 : hasG z.vo (n : Int) = false) (hl : xs.length = (idx (oh z.ow) z.ow.length n).length) (he : B3.eqv (z.vo.set n) (memO z.ow) = false) : z.vote (n : Int) true xs ar wy = z.keep n xs := by
  rw [vote_open _ _ _ _ h0 h1 h2, if_neg (by simp), if_neg (by simp [hl]), if_neg (by simp [he])]
def Tn.late (z : Tn) : Tn := if z.oc = 0 then z.stop 2 else z
def Tn.ack (z : Tn) (g : Int) : Tn := if z.oc ≠ 0 ∧ hasG (memO z.ow) g = true then { z with dn := z.dn.set g.toNat } else z
def Tn.told (z : Tn) : List (List UInt8) := if z.oc = 1 then z.tx else []

end Go.Proofs.Ytebpkhemkdgbjaa
