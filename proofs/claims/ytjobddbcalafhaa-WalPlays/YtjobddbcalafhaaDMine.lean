/-
  A disk that a law, or a call, has made.
-/
import Derived.Test.YtjobddbcalafhaaD2
namespace Go.Proofs.Ytjobddbcalafhaa
open Go.RowKit

/-- A disk that was made behind w0. -/
structure Mine (t : TypeId) (w0 w : World) (B : Nat) (v : Value) (bs : List UInt8) (s : Nat) : Prop where
  now : Dk t w B v bs s
  kept : Kept (fun _ => True) w0 w
  b : w0.heap.size ≤ B
  row : ∀ x, v.ownBlock = some x → w0.heap.size ≤ x

theorem Mine.step {t : TypeId} {w0 w w' : World} {B : Nat} {v v' : Value} {bs bs' : List UInt8} {s s' : Nat} (h : Mine t w0 w B v bs s) (k : Step t w w' B v v' bs' s') : Mine t w0 w' B v' bs' s' :=
  ⟨k.now, (k.old h.kept h.b h.row).1, h.b, (k.old h.kept h.b h.row).2⟩
theorem Mine.ahead {t : TypeId} {w0 w w' : World} {B : Nat} {v : Value} {bs : List UInt8} {s : Nat} (h : Mine t w0 w B v bs s) (k : Kept (fun _ => True) w w') : Mine t w0 w' B v bs s :=
  ⟨h.now.kept k trivial (fun _ _ => trivial), h.kept.trans k, h.b, h.row⟩
theorem Mine.new {w w' : World} (h : Dk 44 w' w.heap.size (.slice none 0 0) [] 0) (k : Kept (fun _ => True) w w') : Mine 44 w w' w.heap.size (.slice none 0 0) [] 0 :=
  ⟨h, k, Nat.le_refl _, fun x hx => by cases hx⟩

end Go.Proofs.Ytjobddbcalafhaa
