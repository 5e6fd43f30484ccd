/-
  Texts in order, each once.
-/
import Derived.Test.YtkinpgkckbocpaaRows
import Derived.Sort.KeysCollected
namespace Go.Proofs.Ytkinpgkckbocpaa
open Go.RowKit Go.Maps Go.Sort

theorem pairs_weaken {α : Type} {R S : α → α → Prop} (hRS : ∀ a b, R a b → S a b) {l : List α} (h : l.Pairwise R) : l.Pairwise S := by
  induction l with
  | nil => exact List.Pairwise.nil
  | cons a l ih =>
    rw [List.pairwise_cons] at h ⊢
    exact ⟨fun b hb => hRS a b (h.1 b hb), ih h.2⟩
theorem pairs_both {α : Type} {R S T : α → α → Prop} (hT : ∀ a b, R a b → S a b → T a b) {l : List α} (h : l.Pairwise R) (h' : l.Pairwise S) : l.Pairwise T := by
  induction l with
  | nil => exact List.Pairwise.nil
  | cons a l ih =>
    rw [List.pairwise_cons] at h h' ⊢
    exact ⟨fun b hb => hT a b (h.1 b hb) (h'.1 b hb), ih h.2 h'.2⟩
/-- In order, each once. -/
def Rises (us : List (List UInt8)) : Prop := us.Pairwise fun a b => a ≤ b ∧ a ≠ b
theorem Rises.nodup {us : List (List UInt8)} (h : Rises us) : us.Nodup := pairs_weaken (fun _ _ h => h.2) h
theorem Rises.up {us : List (List UInt8)} (h : Rises us) : us.Pairwise fun a b => a ≤ b := pairs_weaken (fun _ _ h => h.1) h
theorem rises_unique (us vs : List (List UInt8)) (hu : Rises us) (hv : Rises vs) (h : ∀ x, x ∈ us ↔ x ∈ vs) : us = vs := by
  have nu : us.Nodup := hu.nodup
  have nv : vs.Nodup := hv.nodup
  exact List.Perm.eq_of_pairwise (le := fun a b => a ≤ b) (fun a b _ _ h1 h2 => List.le_antisymm h1 h2) hu.up hv.up ((List.perm_ext_iff_of_nodup nu nv).2 h)
theorem rises_sort (ss : List (List UInt8)) (h : ss.Nodup) : Rises (ss.mergeSort (fun x y => decide (x ≤ y))) ∧ ∀ x, x ∈ ss.mergeSort (fun x y => decide (x ≤ y)) ↔ x ∈ ss := by
  have tr : ∀ a b c : List UInt8, leB a b = true → leB b c = true → leB a c = true := fun a b c h1 h2 => by simp only [leB, decide_eq_true_eq] at *; exact List.le_trans h1 h2
  have to : ∀ a b : List UInt8, (leB a b || leB b a) = true := fun a b => by simp only [leB, Bool.or_eq_true, decide_eq_true_eq]; exact List.le_total a b
  have hp := List.mergeSort_perm ss (fun x y => decide (x ≤ y))
  have h1 := List.pairwise_mergeSort tr to ss
  have h2 : (ss.mergeSort (fun x y => decide (x ≤ y))).Nodup := hp.nodup_iff.2 h
  refine ⟨?_, fun x => hp.mem_iff⟩
  exact pairs_both (fun a b h1 h2 => ⟨by simpa [leB] using h1, h2⟩) h1 h2
end Go.Proofs.Ytkinpgkckbocpaa
