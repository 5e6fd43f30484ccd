/-
  The library's slices.Grow at rules, laid at this program.
-/
import Derived.Shelf.Spec.SlicesGrow
import Derived.Test.YtnddpalngjmhnaaDoorRows
namespace Go.Proofs.YtnddpalngjmhnaaDoor
open Go.Proofs Go.Shelf
end Go.Proofs.YtnddpalngjmhnaaDoor
