/-
  The library's slices.Grow at rules, laid at this program.
-/
import Derived.Shelf.Spec.SlicesGrow
import Derived.Test.YtnddpalngjmhnabDoorRows
namespace Go.Proofs.YtnddpalngjmhnabDoor
open Go.Proofs Go.Shelf
end Go.Proofs.YtnddpalngjmhnabDoor
