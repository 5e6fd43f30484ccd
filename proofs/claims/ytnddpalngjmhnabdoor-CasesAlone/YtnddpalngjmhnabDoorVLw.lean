/-
  What a law's variables hold: a type, a state.
-/
import Derived.Test.YtnddpalngjmhnabDoorV12
import Derived.Test.YtnddpalngjmhnabDoorSArgs
import Derived.Test.YtnddpalngjmhnabDoorVStay
namespace Go.Proofs.YtnddpalngjmhnabDoor
open Go.RowKit

theorem state_alike {w : World} {u v : Value} {x s : Sa} (h : StV w u x) (h' : StV w v s) (f : Few x) (e : x = s) :
    Calls Tryd.prog 10 #[u, v] w fun e w' => e = .returned (.bool true) ∧ Kept (fun _ => True) w w' := by
  subst e
  exact state_same h h' f
/-- What the law's variables hold: the type at T, the state at S. -/
structure Lw (w wr : World) (t : Ty) (s : Sa) (T S : Nat) (L : List UInt8) (aa sa ma : Option Addr) (an ac sn sc mn mc : Nat) (a1 a2 a3 : Option Addr) (c1 c2 c3 : Nat) : Prop where
  tbox : wr.heap[T]? = some (.cells #[.string ⟨L.toArray⟩, .slice aa an ac, .slice sa sn sc, .slice ma mn mc] 26 (0, 0))
  type : TyV wr (.agg #[.string ⟨L.toArray⟩, .slice aa an ac, .slice sa sn sc, .slice ma mn mc]) t
  sbox : wr.heap[S]? = some (.cells #[.string ⟨s.type.toArray⟩, .slice a1 s.vals.length c1, .slice a2 s.done.length c2, .slice a3 s.got.length c3] 32 (0, 0))
  state : StV wr (.agg #[.string ⟨s.type.toArray⟩, .slice a1 s.vals.length c1, .slice a2 s.done.length c2, .slice a3 s.got.length c3]) s
  fit : Fit t s
  low : w.heap.size ≤ S ∧ T ≠ S
  kept : Kept (fun _ => True) w wr
theorem Lw.all {w wr wx : World} {t : Ty} {s : Sa} {T S : Nat} {L : List UInt8} {aa sa ma : Option Addr} {an ac sn sc mn mc : Nat} {a1 a2 a3 : Option Addr} {c1 c2 c3 : Nat} (h : Lw w wr t s T S L aa sa ma an ac sn sc mn mc a1 a2 a3 c1 c2 c3) (k : Kept (fun _ => True) wr wx) : Lw w wx t s T S L aa sa ma an ac sn sc mn mc a1 a2 a3 c1 c2 c3 :=
  ⟨(k.block T (lt_of_block h.tbox) trivial).trans h.tbox, h.type.all k, (k.block S (lt_of_block h.sbox) trivial).trans h.sbox, h.state.all k, h.fit, h.low, h.kept.trans k⟩
/-- Another state is laid into the variable. -/
theorem Lw.put {w wr : World} {t : Ty} {s x : Sa} {T S : Nat} {L : List UInt8} {aa sa ma : Option Addr} {an ac sn sc mn mc : Nat} {a1 a2 a3 b1 b2 b3 : Option Addr} {c1 c2 c3 d1 d2 d3 : Nat} (h : Lw w wr t s T S L aa sa ma an ac sn sc mn mc a1 a2 a3 c1 c2 c3) (hx : StV wr (.agg #[.string ⟨x.type.toArray⟩, .slice b1 x.vals.length d1, .slice b2 x.done.length d2, .slice b3 x.got.length d3]) x) (f : Fit t x) :
    Lw w (put4 wr S (.string ⟨x.type.toArray⟩) (.slice b1 x.vals.length d1) (.slice b2 x.done.length d2) (.slice b3 x.got.length d3)) t x T S L aa sa ma an ac sn sc mn mc b1 b2 b3 d1 d2 d3 := by
  have k := put4_kept (p := (· ≠ S)) (w := wr) (D := S) (by simp) (.string ⟨x.type.toArray⟩) (.slice b1 x.vals.length d1) (.slice b2 x.done.length d2) (.slice b3 x.got.length d3)
  exact ⟨(k.block T (lt_of_block h.tbox) h.low.2).trans h.tbox, h.type.store h.sbox k, put4_at h.sbox _ _ _ _, hx.store h.sbox k, f, h.low, put4_new h.kept h.low.1 _ _ _ _⟩

end Go.Proofs.YtnddpalngjmhnabDoor
