/-
  Small arrays in memory, their cells told by a function.
-/
import Derived.Test.YtebpkhemkdgbjaaSB
import Derived.Laws.OwnMore
namespace Go.Proofs.Ytebpkhemkdgbjaa
open Go.RowKit

/-- The array of n cells g in block b. -/
def Af (w : World) (b t n : Nat) (g : Nat → Value) : Prop := w.heap[b]? = some (.cells ((List.range n).map g).toArray t (0, 0))
section
variable {w w' : World} {b t n : Nat} {g : Nat → Value}
theorem Af.lt (h : Af w b t n g) : b < w.heap.size := lt_of_block h
theorem Af.cell (h : Af w b t n g) {i : Nat} (hi : i < n) : w.cell? ⟨b, i, none⟩ = some (g i) := by
  rw [cell_of_row w b i _ _ _ h]
  simp [hi]
theorem Af.free (h : Af w b t n g) (i : Nat) : w.frozen? ⟨b, i, none⟩ = false := by
  unfold Af at h
  simp [World.frozen?, h]
theorem Af.kept {p : Nat → Prop} (h : Af w b t n g) (hk : Kept p w w') (hb : p b) : Af w' b t n g := (hk.block b h.lt hb).trans h
theorem Af.set (h : Af w b t n g) (j : Nat) (u : Value) : Af (w.setCell ⟨b, j, none⟩ u) b t n (fun i => if i = j then u else g i) := by
  have := heap_setCell_same w b j _ t u h
  unfold Af
  rw [this]
  congr 3
  apply Array.ext'
  rw [Array.toList_setIfInBounds]
  apply List.ext_getElem?
  intro i
  by_cases e : i = j
  · subst e
    by_cases hi : i < n
    · rw [List.getElem?_set_self (by simpa using hi)]
      simp [hi]
    · rw [List.getElem?_eq_none (by simp; omega), List.getElem?_eq_none (by simp; omega)]
  · rw [List.getElem?_set_ne (Ne.symm e)]
    simp 
    by_cases hi : i < n
    · simp [hi, e]
    · simp [hi]
theorem Af.congr {g' : Nat → Value} (h : Af w b t n g) (hg : ∀ i, i < n → g i = g' i) : Af w b t n g' := by
  unfold Af at *
  rw [h]
  congr 3
  apply List.map_congr_left
  intro i hi
  exact hg i (List.mem_range.1 hi)
end

end Go.Proofs.Ytebpkhemkdgbjaa
