/-
  The program's disk and the document's, side by side in memory.
-/
import Derived.Test.YtabemdmapadaoaaD3
import Derived.Test.YtabemdmapadaoaaD4
namespace Go.Proofs.Ytabemdmapadaoaa
open Go.RowKit

/-- A disk stays while blocks that are not its own, and not old, are written. -/
theorem Mine.beside {p : Nat → Prop} {t : TypeId} {w0 w w' : World} {B : Nat} {v : Value} {bs : List UInt8} {s : Nat} (h : Mine t w0 w B v bs s) (k : Kept p w w') (hB : p B) (hG : ∀ x, v.ownBlock = some x → p x) (ho : ∀ i, i < w0.heap.size → p i) : Mine t w0 w' B v bs s :=
  ⟨h.now.kept k hB hG, h.kept.then k (fun i hi _ => ho i hi), h.b, h.row⟩

structure Pair (w0 w : World) (B1 : Nat) (v1 : Value) (bs1 : List UInt8) (s1 : Nat) (B2 : Nat) (v2 : Value) (bs2 : List UInt8) (s2 : Nat) : Prop where
  one : Mine 50 w0 w B1 v1 bs1 s1
  two : Mine 35 w0 w B2 v2 bs2 s2
  ne : B1 ≠ B2
  ne1 : v1.ownBlock ≠ some B2
  ne2 : v2.ownBlock ≠ some B1
  apart : ∀ x, v1.ownBlock = some x → v2.ownBlock ≠ some x

theorem Pair.stepOne {w0 w w' : World} {B1 : Nat} {v1 v' : Value} {bs1 bs' : List UInt8} {s1 s' : Nat} {B2 : Nat} {v2 : Value} {bs2 : List UInt8} {s2 : Nat} (h : Pair w0 w B1 v1 bs1 s1 B2 v2 bs2 s2) (k : Step 50 w w' B1 v1 v' bs' s') : Pair w0 w' B1 v' bs' s' B2 v2 bs2 s2 := by
  refine ⟨h.one.step k, h.two.beside k.kept ⟨Ne.symm h.ne, h.ne1⟩ (fun x hx => ⟨fun e => h.ne2 (e ▸ hx), fun e => h.apart x e hx⟩) (fun i hi => ⟨by have := h.one.b; omega, fun e => by have := h.one.row i e; omega⟩), h.ne, ?_, h.ne2, ?_⟩
  · intro e
    rcases k.new _ e with e | e
    · exact h.ne1 e
    · have := h.two.now.lt; omega
  · intro x hx hx2
    rcases k.new _ hx with e | e
    · exact h.apart x e hx2
    · have := h.two.now.rowlt x hx2; omega
theorem Pair.stepTwo {w0 w w' : World} {B1 : Nat} {v1 v' : Value} {bs1 bs' : List UInt8} {s1 s' : Nat} {B2 : Nat} {v2 : Value} {bs2 : List UInt8} {s2 : Nat} (h : Pair w0 w B1 v1 bs1 s1 B2 v2 bs2 s2) (k : Step 35 w w' B2 v2 v' bs' s') : Pair w0 w' B1 v1 bs1 s1 B2 v' bs' s' := by
  refine ⟨h.one.beside k.kept ⟨h.ne, h.ne2⟩ (fun x hx => ⟨fun e => h.ne1 (e ▸ hx), fun e => h.apart x hx e⟩) (fun i hi => ⟨by have := h.two.b; omega, fun e => by have := h.two.row i e; omega⟩), h.two.step k, h.ne, h.ne1, ?_, ?_⟩
  · intro e
    rcases k.new _ e with e | e
    · exact h.ne2 e
    · have := h.one.now.lt; omega
  · intro x hx hx2
    rcases k.new _ hx2 with e | e
    · exact h.apart x hx e
    · have := h.one.now.rowlt x hx; omega
theorem Pair.ahead {w0 w w' : World} {B1 : Nat} {v1 : Value} {bs1 : List UInt8} {s1 : Nat} {B2 : Nat} {v2 : Value} {bs2 : List UInt8} {s2 : Nat} (h : Pair w0 w B1 v1 bs1 s1 B2 v2 bs2 s2) (k : Kept (fun _ => True) w w') : Pair w0 w' B1 v1 bs1 s1 B2 v2 bs2 s2 :=
  ⟨h.one.ahead k, h.two.ahead k, h.ne, h.ne1, h.ne2, h.apart⟩
/-- .. while blocks that are neither's are written. -/
theorem Pair.beside {p : Nat → Prop} {w0 w w' : World} {B1 : Nat} {v1 : Value} {bs1 : List UInt8} {s1 : Nat} {B2 : Nat} {v2 : Value} {bs2 : List UInt8} {s2 : Nat} (h : Pair w0 w B1 v1 bs1 s1 B2 v2 bs2 s2) (N : Nat) (hN : w0.heap.size ≤ N) (h1 : B1 < N ∧ ∀ x, v1.ownBlock = some x → x < N) (h2 : B2 < N ∧ ∀ x, v2.ownBlock = some x → x < N) (k : Kept p w w') (hp : ∀ i, i < N → p i) : Pair w0 w' B1 v1 bs1 s1 B2 v2 bs2 s2 :=
  ⟨h.one.beside k (hp _ h1.1) (fun x hx => hp _ (h1.2 x hx)) (fun i hi => hp _ (by omega)), h.two.beside k (hp _ h2.1) (fun x hx => hp _ (h2.2 x hx)) (fun i hi => hp _ (by omega)), h.ne, h.ne1, h.ne2, h.apart⟩

end Go.Proofs.Ytabemdmapadaoaa
