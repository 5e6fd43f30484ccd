/-
  What the walks over the document's Sha lean on.
-/
import Derived.Test.YtciecjnmiacmeaaRSha1
import Derived.BigRegion
namespace Go.Proofs.Ytciecjnmiacmeaa
open Go.RowKit

/-- A row of one's own that lies where nothing was, grown. -/
theorem own_grown {b : Nat} {a w w' : World} {v : Value} {n : Nat} {xs : List Value} (h : w.ownsRow b 5 1 v n xs) (hk : Kept (fun _ => True) a w) (hb : a.heap.size ≤ b) (hg : w.grownBy w' v.ownBlock) : Kept (fun _ => True) a w' :=
  hk.grown hg (fun k hk e _ => by have := (h.lt k e).1; omega)
/-- A callee that draws nothing, in a region behind another one that draws. -/
theorem quiet_two {P : Program} {f : FuncId} {args : Array Value} {w : World} {k n : Nat} {v : Value} (h : Calls P f args (w.drewN (k + n)) fun e w' => e = .returned v ∧ w' = w.drewN (k + n)) : Calls P f args (w.drewN (k + n)) fun e w'' => e = .returned v ∧ ∃ m, w'' = w.drewN (k + m) :=
  h.mono fun _ _ ⟨he, hm⟩ => ⟨he, n, hm⟩
theorem out4_get (ws : List Nat) (a r : Nat) (ha : a < ws.length) (hr : r < 4) : (out4 ws)[4 * a + r]? = some (UInt8.ofNat (ws.getD a 0 / 256 ^ (3 - r))) := by
  induction ws generalizing a with
  | nil => simp at ha
  | cons x ws ih =>
    have e : out4 (x :: ws) = bytesOf x 4 ++ out4 ws := by simp [out4]
    rw [e]
    cases a with
    | zero =>
      rw [List.getElem?_append_left (by rw [bytesOf_length]; omega)]
      match r, hr with
      | 0, _ => rfl
      | 1, _ => rfl
      | 2, _ => rfl
      | 3, _ => rfl
    | succ a =>
      rw [List.getElem?_append_right (by rw [bytesOf_length]; omega), bytesOf_length, show 4 * (a + 1) + r - 4 = 4 * a + r by omega, ih a (by simpa using ha)]
      rfl
def sliceLen : Value → Nat
  | .slice _ n _ => n
  | _ => 0
theorem bytesOf_take (x j : Nat) (h : j < 8) : (bytesOf x 8).take (j + 1) = (bytesOf x 8).take j ++ [UInt8.ofNat (x / 256 ^ (7 - j))] := by
  match j, h with
  | 0, _ => rfl
  | 1, _ => rfl
  | 2, _ => rfl
  | 3, _ => rfl
  | 4, _ => rfl
  | 5, _ => rfl
  | 6, _ => rfl
  | 7, _ => rfl

/-- The body of the loop in the block of that number. -/
def loopIn (n : Nat) : Code → Option Code
  | .block m c => if m = n then (match c with | .loop b => some b | _ => none) else loopIn n c
  | .seq a b => match loopIn n a with
    | some c => some c
    | none => loopIn n b
  | .loop c => loopIn n c
  | .cond _ a b => match loopIn n a with
    | some c => some c
    | none => loopIn n b
  | _ => none

/-- A loop's walk whose rest is known at its block's end alone. -/
theorem wp_tail {n : Nat} {K : Act → World → Prop} {R : Ending → World → Prop} {Q : Exit → Act → World → Prop} {c : Code} {a : Act} {w : World} (h : Code.wp Try.prog c (Exit.inBlock n (Exit.then K (bodyPost Try.prog Try.f40 R))) a w)
    (hr : ∀ a w, bodyPost Try.prog Try.f40 R .ret a w → Q .ret a w) (hp : ∀ ch a w, bodyPost Try.prog Try.f40 R (.panic ch) a w → Q (.panic ch) a w) (ho : ∀ a w, bodyPost Try.prog Try.f40 R .outgrown a w → Q .outgrown a w) :
    Code.wp Try.prog c (Exit.inBlock n (Exit.then K Q)) a w := by
  refine Code.wp_mono ?_ h
  intro e a w hq
  cases e with
  | normal => exact hq
  | exit m =>
    by_cases hm : m = n
    · subst hm
      simpa [Exit.inBlock, Exit.then] using hq
    · simp [Exit.inBlock, Exit.then, hm, bodyPost] at hq
  | goto l => exact hq.elim
  | ret => exact hr a w hq
  | panic ch => exact hp ch a w hq
  | outgrown => exact ho a w hq

end Go.Proofs.Ytciecjnmiacmeaa
