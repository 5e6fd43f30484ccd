/-
  A type that is looked at.
-/
import Derived.Test.YtnddpalngjmhnaaDoorT2
namespace Go.Proofs.YtnddpalngjmhnaaDoor
open Go.RowKit

/-- A type that is looked at. -/
def TyV (w : World) (v : Value) (t : Ty) : Prop := ∃ va vs vm, v = .agg #[.string ⟨t.name.toArray⟩, va, vs, vm] ∧ Av w va t.attrs ∧ Rv w vs t.stages ∧ Rv w vm t.marks
theorem TyV.all {w w' : World} {v : Value} {t : Ty} (h : TyV w v t) (k : Kept (fun _ => True) w w') : TyV w' v t := by
  obtain ⟨va, vs, vm, e, h1, h2, h3⟩ := h
  exact ⟨va, vs, vm, e, h1.all k, h2.all k, h3.all k⟩
theorem TyV.none (w : World) : TyV w (.agg #[.string ⟨#[]⟩, .slice none 0 0, .slice none 0 0, .slice none 0 0]) Ty.none := ⟨_, _, _, rfl, Av.nil w, Rv.nil w, Rv.nil w⟩

/-- Four blocks that were made one behind the other. -/
theorem alloc_four (w : World) (a b c d : Obj) : ((((w.alloc a).alloc b).alloc c).alloc d).heap[w.heap.size]? = some a ∧ ((((w.alloc a).alloc b).alloc c).alloc d).heap[w.heap.size + 1]? = some b ∧ ((((w.alloc a).alloc b).alloc c).alloc d).heap[w.heap.size + 2]? = some c ∧ ((((w.alloc a).alloc b).alloc c).alloc d).heap[w.heap.size + 3]? = some d := by
  have e1 : (w.alloc a).heap.size = w.heap.size + 1 := by simp
  have e2 : ((w.alloc a).alloc b).heap.size = w.heap.size + 2 := by simp
  have e3 : (((w.alloc a).alloc b).alloc c).heap.size = w.heap.size + 3 := by simp
  refine ⟨?_, ?_, ?_, ?_⟩
  · rw [heap_alloc_old _ _ (by omega), heap_alloc_old _ _ (by omega), heap_alloc_old _ _ (by omega)]
    exact heap_alloc_new w a
  · rw [heap_alloc_old _ _ (by omega), heap_alloc_old _ _ (by omega), ← e1]
    exact heap_alloc_new _ b
  · rw [heap_alloc_old _ _ (by omega), ← e2]
    exact heap_alloc_new _ c
  · rw [← e3]
    exact heap_alloc_new _ d

end Go.Proofs.YtnddpalngjmhnaaDoor
