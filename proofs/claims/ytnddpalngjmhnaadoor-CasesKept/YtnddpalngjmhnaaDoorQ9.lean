/-
  Slices of texts and of numbers that were made just now; the law's known.
-/
import Derived.Test.YtnddpalngjmhnaaDoorQ8
import Derived.Test.YtnddpalngjmhnaaDoorWStr
namespace Go.Proofs.YtnddpalngjmhnaaDoor
open Go.RowKit

/-- A frame without block P, for what was there ahead of it. -/
theorem Kept.fresh {P : Nat} {a b c : World} (h : Kept (fun _ => True) a b) (k : Kept (· ≠ P) b c) (hP : a.heap.size ≤ P) : Kept (fun _ => True) a c :=
  h.then k (fun i hi _ => by omega)
/-- Numbers as cells. -/
def nrow (xs : List Int) : List Value := xs.map fun n => .int .i64 n
theorem Ns.new {w : World} {g cap : Nat} {ns : List (List UInt8)} {fr : Nat × Nat} (h : w.heap[g]? = some (.cells (srow ns).toArray 9 fr)) (hl : ns.length ≤ 281474976710656) : Ns w (.slice (some ⟨g, 0, none⟩) ns.length cap) ns := by
  refine ⟨_, _, rfl, hl, fun _ => ⟨g, 0, rfl, lt_of_block h, fun i hi => ?_⟩⟩
  rw [cell_of_row w g _ _ _ _ h, Nat.zero_add]
  have := srow_get ns i hi
  simpa using this
theorem Vi.new {w : World} {g cap : Nat} {xs : List Int} {fr : Nat × Nat} (h : w.heap[g]? = some (.cells (nrow xs).toArray 3 fr)) : Vi w (.slice (some ⟨g, 0, none⟩) xs.length cap) xs := by
  refine ⟨_, _, rfl, fun _ => ⟨g, 0, rfl, lt_of_block h, fun i hi => ?_⟩⟩
  rw [cell_of_row w g _ _ _ _ h, Nat.zero_add]
  simp [nrow, hi]
theorem Ns.nil (w : World) : Ns w (.slice none 0 0) [] := ⟨none, 0, rfl, by simp, fun h => by simp at h⟩
theorem Txs.ns {w : World} {base : Nat} {v : Value} {ss : List (List UInt8)} (h : Txs w base v ss) (hl : ss.length ≤ 281474976710656) : Ns w v ss := by
  obtain ⟨ao, cap, rfl, hc, hg⟩ := h.shape
  refine ⟨ao, cap, rfl, hl, fun h0 => ?_⟩
  obtain ⟨g, rfl⟩ := hg h0
  refine ⟨g, 0, rfl, ?_, fun i hi => by rw [Nat.zero_add]; exact h.cell i hi⟩
  exact World.block_lt_of_cell? w _ (h.cell 0 h0)

end Go.Proofs.YtnddpalngjmhnaaDoor
