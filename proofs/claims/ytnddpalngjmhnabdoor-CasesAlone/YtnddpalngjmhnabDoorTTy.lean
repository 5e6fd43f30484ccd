/-
  The book's two types.
-/
import Derived.Test.YtnddpalngjmhnabDoorTBk
import Derived.Test.YtnddpalngjmhnabDoorTR1
namespace Go.Proofs.YtnddpalngjmhnabDoor
open Go.RowKit

theorem Av.new {w : World} {g cap : Nat} {xs : List At} {fr : Nat × Nat} (h : w.heap[g]? = some (.cells (arow xs).toArray 48 fr)) (hl : xs.length ≤ 1000) : Av w (.slice (some ⟨g, 0, none⟩) xs.length cap) xs := by
  have hc : ∀ i (_ : i < xs.length) (j : Nat), j < 4 → w.cell? ⟨g, 0 + i * 4 + j, none⟩ = (alay xs[i])[j]? := fun i hi j hj => by
    rw [cell_of_row w g _ _ _ _ h, Nat.zero_add]
    have := flat_get alay_len xs i hi j hj
    simpa [arow] using this
  refine ⟨_, _, rfl, by omega, by simp, fun _ => ⟨g, 0, rfl, lt_of_block h, fun i hi => ⟨hc i hi 0 (by omega), hc i hi 1 (by omega), hc i hi 2 (by omega), hc i hi 3 (by omega)⟩⟩⟩
theorem Rv.new {w : World} {g cap : Nat} {xs : List Ru} {fr : Nat × Nat} (h : w.heap[g]? = some (.cells (rrow xs).toArray 50 fr)) (hl : xs.length ≤ 1000) : Rv w (.slice (some ⟨g, 0, none⟩) xs.length cap) xs := by
  have hc : ∀ i (_ : i < xs.length) (j : Nat), j < 2 → w.cell? ⟨g, 0 + i * 2 + j, none⟩ = (rlay xs[i])[j]? := fun i hi j hj => by
    rw [cell_of_row w g _ _ _ _ h, Nat.zero_add]
    have := flat_get rlay_len xs i hi j hj
    simpa [rrow] using this
  refine ⟨_, _, rfl, by omega, by simp, fun _ => ⟨g, 0, rfl, lt_of_block h, fun i hi => ⟨hc i hi 0 (by omega), hc i hi 1 (by omega)⟩⟩⟩

theorem alloc_five (w : World) (a b c d e : Obj) : let W := ((((w.alloc a).alloc b).alloc c).alloc d).alloc e; W.heap[w.heap.size]? = some a ∧ W.heap[w.heap.size + 1]? = some b ∧ W.heap[w.heap.size + 1 + 1]? = some c ∧ W.heap[w.heap.size + 1 + 1 + 1]? = some d ∧ W.heap[w.heap.size + 1 + 1 + 1 + 1]? = some e := by
  obtain ⟨h1, h2, h3, h4⟩ := alloc_four w a b c d
  have e4 : ((((w.alloc a).alloc b).alloc c).alloc d).heap.size = w.heap.size + 1 + 1 + 1 + 1 := by simp
  refine ⟨?_, ?_, ?_, ?_, ?_⟩
  · rw [heap_alloc_old _ _ (by omega)]; exact h1
  · rw [heap_alloc_old _ _ (by omega)]; exact h2
  · rw [heap_alloc_old _ _ (by omega)]; exact h3
  · rw [heap_alloc_old _ _ (by omega)]; exact h4
  · rw [← e4]; exact heap_alloc_new _ e
/-- The book's types. -/
def loan : Ty := ⟨[108, 111, 97, 110], [⟨[115, 117, 109], 5, 0, 100⟩, ⟨[114, 105, 115, 107], 0, -10, 10⟩], [⟨[99, 104, 101, 99, 107], [108, 116, 32, 114, 105, 115, 107, 32, 53]⟩, ⟨[112, 97, 121], [97, 110, 100, 32, 99, 104, 101, 99, 107, 32, 108, 116, 32, 48, 32, 115, 117, 109]⟩],
  [⟨[112, 97, 105, 100], [112, 97, 121]⟩, ⟨[98, 105, 103], [108, 116, 32, 53, 48, 32, 115, 117, 109]⟩, ⟨[98, 111, 116, 104], [97, 110, 100, 32, 112, 97, 105, 100, 32, 98, 105, 103]⟩]⟩
def count : Ty := ⟨[99, 111, 117, 110, 116], [⟨[110], 0, -1000, 1000⟩], [], []⟩
set_option maxRecDepth 100000 in
set_option maxHeartbeats 4000000 in
theorem types_any {w : World} : Calls Tryd.prog 4 #[] w fun e w' => ∃ g a s m b, e = .returned (.slice (some ⟨g, 0, none⟩) 2 2) ∧ w'.heap[g]? = some (.cells #[.string ⟨loan.name.toArray⟩, a, s, m, .string ⟨count.name.toArray⟩, b, .slice none 0 0, .slice none 0 0] 26 (0, 0)) ∧
    TyV w' (.agg #[.string ⟨loan.name.toArray⟩, a, s, m]) loan ∧ TyV w' (.agg #[.string ⟨count.name.toArray⟩, b, .slice none 0 0, .slice none 0 0]) count ∧ Kept (fun _ => True) w w' := by
  go_enter Tryd.func4, Tryd.ntmps4
  go_wp2_with fail
  obtain ⟨h1, h2, h3, h4, h5⟩ := alloc_five w (.cells (arow loan.attrs).toArray 48) (.cells (rrow loan.stages).toArray 50) (.cells (rrow loan.marks).toArray 50) (.cells (arow count.attrs).toArray 48)
    (.cells #[.string ⟨loan.name.toArray⟩, .slice (some ⟨w.heap.size, 0, none⟩) 2 2, .slice (some ⟨w.heap.size + 1, 0, none⟩) 2 2, .slice (some ⟨w.heap.size + 1 + 1, 0, none⟩) 3 3, .string ⟨count.name.toArray⟩, .slice (some ⟨w.heap.size + 1 + 1 + 1, 0, none⟩) 1 1, .slice none 0 0, .slice none 0 0] 26)
  go_ret
  refine ⟨_, _, _, _, _, rfl, h5, ⟨_, _, _, rfl, Av.new (xs := loan.attrs) h1 (by decide), Rv.new (xs := loan.stages) h2 (by decide), Rv.new (xs := loan.marks) h3 (by decide)⟩, ⟨_, _, _, rfl, Av.new (xs := count.attrs) h4 (by decide), Rv.nil _, Rv.nil _⟩, ?_⟩
  exact (((((Kept.refl _ w).alloc _).alloc _).alloc _).alloc _).alloc _


end Go.Proofs.YtnddpalngjmhnabDoor
