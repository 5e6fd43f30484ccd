/-
  What TxnStays holds on to, plainly.
-/
import Derived.Test.YtebpkhemkdgbjaaYS
namespace Go.Proofs.Ytebpkhemkdgbjaa
open Go.RowKit

/-- Whose yes is kept said yes; Committed if all did. -/
structure InvS (L : List Nat) (z : Tn) (ys : B3) : Prop where
  ow : z.ow = L
  vy : ∀ g, g < 3 → z.vo.at g = true → ys.at g = true
  cm : z.oc = 1 → z.vo = memO L
/-- The same reply. -/
def Alike (z z' : Tn) : Prop := z'.oc = z.oc ∧ z'.ar = z.ar ∧ z'.wy = z.wy ∧ z'.told = z.told
theorem Alike.refl (z : Tn) : Alike z z := ⟨rfl, rfl, rfl, rfl⟩
theorem stop_vo (z : Tn) (oc : Int) (i : Nat) : (z.stop oc).vo.at i = false := B3.at_none i
theorem InvS.grow {L : List Nat} {z : Tn} {ys : B3} (h : InvS L z ys) (g : Nat) (hg : g < 3) (b : Bool) : InvS L z (ys.put (ys.at g || b) g) := by
  refine ⟨h.ow, fun i hi hv => ?_, h.cm⟩
  rw [B3.at_put _ _ _ _ hg]
  by_cases e : i = g
  · subst e
    rw [if_pos rfl, h.vy i hi hv]
    rfl
  · rw [if_neg e]
    exact h.vy i hi hv
theorem vote_cases (z : Tn) (g : Int) (yes : Bool) (xs : List (List UInt8)) (ar wy : Int) :
    z.vote g yes xs ar wy = z ∨ (z.oc = 0 ∧ z.vote g yes xs ar wy = z.stop 2) ∨ (z.oc = 0 ∧ z.vote g yes xs ar wy = { z.stop 3 with ar := ar, wy := wy }) ∨ (z.oc = 0 ∧ yes = true ∧ ∃ n : Nat, n < 3 ∧ g = (n : Int) ∧ ((z.vo.set n = memO z.ow ∧ z.vote g yes xs ar wy = { z.keep n xs with oc := 1 }) ∨ z.vote g yes xs ar wy = z.keep n xs)) := by
  by_cases h : z.oc ≠ 0 ∨ hasG (memO z.ow) g = false ∨ hasG z.vo g = true
  · exact .inl (vote_nothing h)
  · have h0 : z.oc = 0 := by
      by_cases q : z.oc = 0
      · exact q
      · exact absurd (.inl q) h
    have h1 : hasG (memO z.ow) g = true := by
      cases q : hasG (memO z.ow) g
      · exact absurd (.inr (.inl q)) h
      · rfl
    have h2 : hasG z.vo g = false := by
      cases q : hasG z.vo g
      · rfl
      · exact absurd (.inr (.inr q)) h
    obtain ⟨n, hn, rfl, -⟩ := hasG_yes h1
    cases yes
    · cases hp : passesP wy
      · exact .inr (.inr (.inl ⟨h0, vote_no h0 h1 h2 hp⟩))
      · exact .inr (.inl ⟨h0, vote_no_again h0 h1 h2 hp⟩)
    · by_cases hl : xs.length = (idx (oh z.ow) z.ow.length n).length
      · cases he : B3.eqv (z.vo.set n) (memO z.ow)
        · exact .inr (.inr (.inr ⟨h0, rfl, n, hn, rfl, .inr (vote_kept h0 h1 h2 hl he)⟩))
        · exact .inr (.inr (.inr ⟨h0, rfl, n, hn, rfl, .inl ⟨B3.eqv_iff.1 he, vote_all h0 h1 h2 hl he⟩⟩))
      · exact .inl (vote_long h0 h1 h2 hl)
theorem InvS.vote {L : List Nat} {z : Tn} {ys : B3} (h : InvS L z ys) {g : Nat} (hg : g < 3) (yes : Bool) (xs : List (List UInt8)) (ar wy : Int) :
    InvS L (z.vote (g : Int) yes xs ar wy) (ys.put (ys.at g || yes) g) ∧ (z.oc ≠ 0 → Alike z (z.vote (g : Int) yes xs ar wy)) := by
  have hgr := h.grow g hg yes
  rcases vote_cases z g yes xs ar wy with e | ⟨h0, e⟩ | ⟨h0, e⟩ | ⟨h0, rfl, n, hn, hgn, e⟩
  · rw [e]
    exact ⟨hgr, fun _ => Alike.refl z⟩
  · rw [e]
    exact ⟨⟨h.ow, fun i _ hv => (by rw [stop_vo] at hv; cases hv), fun q => (by cases (show (2 : Int) = 1 from q))⟩, fun q => absurd h0 q⟩
  · rw [e]
    refine ⟨⟨h.ow, fun i _ hv => ?_, fun q => (by cases (show (3 : Int) = 1 from q))⟩, fun q => absurd h0 q⟩
    have : (z.stop 3).vo.at i = true := hv
    rw [stop_vo] at this; cases this
  · have e2 : g = n := by omega
    subst e2
    have key : ∀ i, i < 3 → (z.vo.set g).at i = true → (ys.put (ys.at g || true) g).at i = true := fun i hi hv => by
      rw [B3.at_put _ _ _ _ hg]
      by_cases e3 : i = g
      · rw [if_pos e3]; simp
      · rw [B3.at_set _ _ _ hg, if_neg e3] at hv
        rw [if_neg e3]
        exact h.vy i hi hv
    rcases e with ⟨hm, e⟩ | e
    · rw [e]
      exact ⟨⟨h.ow, key, fun _ => by rw [← h.ow]; exact hm⟩, fun q => absurd h0 q⟩
    · rw [e]
      exact ⟨⟨h.ow, key, fun q => by have : z.oc = 1 := q; omega⟩, fun q => absurd h0 q⟩
theorem InvS.late {L : List Nat} {z : Tn} {ys : B3} (h : InvS L z ys) : InvS L z.late ys ∧ (z.oc ≠ 0 → Alike z z.late) := by
  unfold Tn.late
  by_cases h0 : z.oc = 0
  · rw [if_pos h0]
    exact ⟨⟨h.ow, fun i _ hv => (by rw [stop_vo] at hv; cases hv), fun q => (by cases (show (2 : Int) = 1 from q))⟩, fun q => absurd h0 q⟩
  · rw [if_neg h0]
    exact ⟨h, fun _ => Alike.refl z⟩
theorem InvS.ack {L : List Nat} {z : Tn} {ys : B3} (h : InvS L z ys) (g : Int) : InvS L (z.ack g) ys ∧ Alike z (z.ack g) := by
  unfold Tn.ack
  split
  · exact ⟨⟨h.ow, h.vy, h.cm⟩, rfl, rfl, rfl, rfl⟩
  · exact ⟨h, Alike.refl z⟩
theorem InvS.start (L : List Nat) : InvS L (rawT L) B3.none := ⟨rfl, fun i _ hv => (by rw [show (rawT L).vo.at i = false from B3.at_none i] at hv; cases hv), fun q => (by cases (show (0 : Int) = 1 from q))⟩

end Go.Proofs.Ytebpkhemkdgbjaa
