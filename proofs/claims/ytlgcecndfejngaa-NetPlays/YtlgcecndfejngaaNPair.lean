/-
  The program's net and the document's, side by side in memory.
-/
import Derived.Test.YtlgcecndfejngaaNR3
import Derived.Test.YtlgcecndfejngaaNAsks
namespace Go.Proofs.Ytlgcecndfejngaa
open Go.RowKit

structure Both (w0 w : World) (B1 : Nat) (F1 : Nat → Prop) (v1 : Value) (ps : List (Ms × Value)) (s1 : Int) (B2 : Nat) (F2 : Nat → Prop) (v2 : Value) (ms : List Ms) (s2 : Int) (n : Int) : Prop where
  one : Own1 w0 w B1 F1 v1 ps n s1
  two : Net2 w B2 F2 v2 ms n s2
  foot : ∀ x, F2 x → w0.heap.size ≤ x
  apart : ∀ x, F1 x → ¬ F2 x

section
variable {w0 w w' : World} {B1 : Nat} {F1 F1' : Nat → Prop} {v1 v1' : Value} {ps qs : List (Ms × Value)} {s1 s1' : Int} {B2 : Nat} {F2 F2' : Nat → Prop} {v2 v2' : Value} {ms ms' : List Ms} {s2 s2' : Int} {n : Int}

theorem Both.stepOne (h : Both w0 w B1 F1 v1 ps s1 B2 F2 v2 ms s2 n) (k : St1 w w' B1 F1 F1' v1' qs n s1') : Both w0 w' B1 F1' v1' qs s1' B2 F2 v2 ms s2 n := by
  refine ⟨h.one.step k, h.two.kept k.kept (fun x hx q => h.apart x q hx), h.foot, fun x hx q => ?_⟩
  rcases k.new x hx with e | e
  · exact h.apart x e q
  · have := h.two.lt x q; omega
theorem Both.stepTwo (h : Both w0 w B1 F1 v1 ps s1 B2 F2 v2 ms s2 n) (k : St2 w w' B2 F2 F2' v2' ms' n s2') : Both w0 w' B1 F1 v1 ps s1 B2 F2' v2' ms' s2' n := by
  refine ⟨h.one.beside k.kept (fun x hx => h.apart x hx) (fun x hx q => by have := h.foot x q; omega), k.now, fun x hx => ?_, fun x hx q => ?_⟩
  · rcases k.new x hx with e | e
    · exact h.foot x e
    · exact Nat.le_trans h.one.kept.size e
  · rcases k.new x q with e | e
    · exact h.apart x hx e
    · have := h.one.net.lt x hx; omega
theorem Both.ahead (h : Both w0 w B1 F1 v1 ps s1 B2 F2 v2 ms s2 n) (k : Kept (fun _ => True) w w') : Both w0 w' B1 F1 v1 ps s1 B2 F2 v2 ms s2 n :=
  ⟨h.one.ahead k, h.two.kept k (fun _ _ => trivial), h.foot, h.apart⟩
theorem St2.not (k : St2 w w' B2 F2 F2' v2 ms n s2) {x : Nat} (hx : x < w.heap.size) (hF : ¬ F2 x) : ¬ F2' x := fun q => by
  rcases k.new x q with q | q
  · exact hF q
  · omega
end

/-- A block of the law's own: no part of either net. -/
structure Out (w : World) (F1 F2 : Nat → Prop) (G : Nat) : Prop where
  lt : G < w.heap.size
  one : ¬ F1 G
  two : ¬ F2 G
theorem Out.stepOne {w w' : World} {B : Nat} {F1 F1' F2 : Nat → Prop} {v : Value} {ps : List (Ms × Value)} {n s : Int} {G : Nat} (h : Out w F1 F2 G) (k : St1 w w' B F1 F1' v ps n s) : Out w' F1' F2 G ∧ Kept (· = G) w w' :=
  ⟨⟨Nat.lt_of_lt_of_le h.lt k.kept.size, k.not h.lt h.one, h.two⟩, k.kept.mono (fun _ _ e => e ▸ h.one)⟩
theorem Out.stepTwo {w w' : World} {B : Nat} {F1 F2 F2' : Nat → Prop} {v : Value} {ms : List Ms} {n s : Int} {G : Nat} (h : Out w F1 F2 G) (k : St2 w w' B F2 F2' v ms n s) : Out w' F1 F2' G ∧ Kept (· = G) w w' :=
  ⟨⟨Nat.lt_of_lt_of_le h.lt k.kept.size, h.one, k.not h.lt h.two⟩, k.kept.mono (fun _ _ e => e ▸ h.two)⟩
theorem Out.ahead {w w' : World} {F1 F2 : Nat → Prop} {G : Nat} (h : Out w F1 F2 G) (k : Kept (fun _ => True) w w') : Out w' F1 F2 G := ⟨Nat.lt_of_lt_of_le h.lt k.size, h.one, h.two⟩

end Go.Proofs.Ytlgcecndfejngaa
