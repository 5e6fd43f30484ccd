/-
  Two types that are the same, held against one another.
-/
import Derived.Test.YtnddpalngjmhnabDoorT5
namespace Go.Proofs.YtnddpalngjmhnabDoor
open Go.RowKit

theorem attr_same (x : At) (W : World) : (binOp .neq 48 (.agg #[.string ⟨x.name.toArray⟩, .int .i64 x.start, .int .i64 x.lo, .int .i64 x.hi]) (.agg #[.string ⟨x.name.toArray⟩, .int .i64 x.start, .int .i64 x.lo, .int .i64 x.hi])).run Tryd.prog W = .ok (.bool false) W := by
  go_simp
theorem rule_same (x : Ru) (W : World) : (binOp .neq 50 (.agg #[.string ⟨x.name.toArray⟩, .string ⟨x.guard.toArray⟩]) (.agg #[.string ⟨x.name.toArray⟩, .string ⟨x.guard.toArray⟩])).run Tryd.prog W = .ok (.bool false) W := by
  go_simp

end Go.Proofs.YtnddpalngjmhnabDoor
