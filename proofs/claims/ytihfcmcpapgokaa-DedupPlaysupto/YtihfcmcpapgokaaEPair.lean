/-
  The program's table and the document's, side by side.
-/
import Derived.Test.YtihfcmcpapgokaaE10
import Derived.Test.YtihfcmcpapgokaaER3
import Derived.Test.YtihfcmcpapgokaaEAsks
namespace Go.Proofs.Ytihfcmcpapgokaa
open Go.RowKit

/-- Both tables, made behind w0, of the same clients. -/
structure Bo (w0 w : World) (B : Nat) (v : Value) (C : Nat) (u : Value) (m : Nat) (xs : List La) : Prop where
  tm : TM w0 w B v m xs
  rt : Rt w C u m xs
  c0 : w0.heap.size ≤ C
  u0 : ∀ k, u.ownBlock = some k → w0.heap.size ≤ k
  good : Good m xs

section
variable {w0 w w' w'' : World} {B A C : Nat} {v v' u u' : Value} {m : Nat} {xs ys : List La}
theorem Bo.ahead (h : Bo w0 w B v C u m xs) (k : Kept (fun _ => True) w w') : Bo w0 w' B v C u m xs := ⟨h.tm.ahead k, h.rt.all k, h.c0, h.u0, h.good⟩
theorem Bo.cb (h : Bo w0 w B v C u m xs) : C ≠ B := fun e => by
  have h1 := h.tm.tb.self
  have h2 := h.rt.self
  rw [e, h1] at h2
  simp at h2
/-- The document's is not touched by what turns the program's. -/
theorem Bo.left (h : Bo w0 w B v C u m xs) (s : PS w w' B v v' m ys) : Rt w' C u m xs :=
  h.rt.kept s.kept ⟨h.cb, own_type h.tm.tb.own h.rt.self (by decide)⟩ (fun k hk => ⟨fun e => own_type h.rt.own h.tm.tb.self (by decide) (e ▸ hk), own_types h.rt.own h.tm.tb.own (by decide) k hk⟩)
theorem Bo.both (h : Bo w0 w B v C u m xs) (s : PS w w' B v v' m ys) (r : RSt w' w'' C u u' m ys) (g : Good m ys) : Bo w0 w'' B v' C u' m ys := by
  have hr := h.left s
  have t' := h.tm.step s
  refine ⟨t'.side r.kept ⟨Ne.symm h.cb, own_type hr.own t'.tb.self (by decide)⟩ (fun k hk => ⟨fun e => own_type t'.tb.own hr.self (by decide) (e ▸ hk), own_types t'.tb.own hr.own (by decide) k hk⟩) (fun i hi => ⟨by have := h.c0; omega, fun e => by have := h.u0 i e; omega⟩), r.now, h.c0, fun k hk => ?_, g⟩
  rcases r.new k hk with e | e
  · exact h.u0 k e
  · exact Nat.le_trans t'.kept.size e
theorem Bo.loaded (h : Bo w0 w B v C u m xs) (t : TM w w' A v' m xs) : Bo w0 w' A v' C u m xs :=
  ⟨⟨t.tb, h.tm.kept.trans t.kept, Nat.le_trans h.tm.kept.size t.b0, fun k hk => Nat.le_trans h.tm.kept.size (t.v0 k hk)⟩, h.rt.all t.kept, h.c0, h.u0, h.good⟩
end

end Go.Proofs.Ytihfcmcpapgokaa
