/-
  Two types that are the same, held against one another.
-/
import Derived.Test.YtnddpalngjmhnaaDoorT5
namespace Go.Proofs.YtnddpalngjmhnaaDoor
open Go.RowKit

theorem attr_same (x : At) (W : World) : (binOp .neq 59 (.agg #[.string ⟨x.name.toArray⟩, .int .i64 x.start, .int .i64 x.lo, .int .i64 x.hi]) (.agg #[.string ⟨x.name.toArray⟩, .int .i64 x.start, .int .i64 x.lo, .int .i64 x.hi])).run Tryd.prog W = .ok (.bool false) W := by
  go_simp
theorem rule_same (x : Ru) (W : World) : (binOp .neq 55 (.agg #[.string ⟨x.name.toArray⟩, .string ⟨x.guard.toArray⟩]) (.agg #[.string ⟨x.name.toArray⟩, .string ⟨x.guard.toArray⟩])).run Tryd.prog W = .ok (.bool false) W := by
  go_simp

theorem texts_same {w : World} {b1 b2 : Nat} {a1 a2 : Option Addr} {n1 n2 c1 c2 : Nat} {xs : List (List UInt8)} (h1 : Txs w b1 (.slice a1 n1 c1) xs) (h2 : Txs w b2 (.slice a2 n2 c2) xs) (hl : n1 ≤ 140737488355328) :
    Calls Tryd.prog 26 #[.slice a1 n1 c1, .slice a2 n2 c2] w fun e w' => e = .returned (.bool true) ∧ Kept (fun _ => True) w w' :=
  (texts_any h1 h2 hl).mono fun _ _ ⟨he, m, hw⟩ => ⟨by simpa using he, by rw [hw]; exact (Kept.refl _ _).drewN m⟩

end Go.Proofs.YtnddpalngjmhnaaDoor
