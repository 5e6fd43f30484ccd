/-
  The program's table: Clients.
-/
import Derived.Test.YtmiccehdljammaaE3
namespace Go.Proofs.Ytmiccehdljammaa
open Go.RowKit

theorem heap_alloc2_new (w : World) (a b : Obj) : ((w.alloc a).alloc b).heap[w.heap.size + 1]? = some b := by
  have := heap_alloc_new (w.alloc a) b
  simpa using this

end Go.Proofs.Ytmiccehdljammaa
