/-
  The program's log and the document's, side by side.
-/
import Derived.Test.YtmejeiadfcdogaaL4
import Derived.Test.YtmejeiadfcdogaaLR3
import Derived.Test.YtmejeiadfcdogaaLAsks
namespace Go.Proofs.Ytmejeiadfcdogaa
open Go.RowKit

/-- The document's log as it is made. -/
def zs : List Value := (List.range 1026).map (rcell 0 0 (fun _ => none))
theorem run_build_ref (W : World) : (Instr.build 42 #[]).run Try.prog W = .ok (.agg zs.toArray) W := by kernel_rfl
theorem w_build_ref {ops : Array Oper} {rest : List Oper} {a : Act} {w : World} {Q : Exit → Act → World → Prop} {d : Option Nat} {ty : TypeId} {p : String} {af : Array Edge}
    (h : wpList Try.prog ops Q rest (a.put d (.agg zs.toArray)) w) : wpList Try.prog ops Q (⟨d, .build 42 #[], ty, p, af, none⟩ :: rest) a w := by
  refine wpList_plain rfl fun K hK => ?_
  unfold Oper.wp execOp
  have e := run_build_ref w
  simp only [Sem.run_bind, Sem.run_pure, List.map_toArray, List.map_nil]
  simp [e, Oper.upon, Result.andThen]
  exact hK _ _ h
theorem w_box_ref {ops : Array Oper} {rest : List Oper} {a : Act} {w : World} {Q : Exit → Act → World → Prop} {d : Option Nat} {ty : TypeId} {p : String} {af : Array Edge} {x : Operand} (hx : a.eval x = .agg zs.toArray)
    (h : ∀ w', Rm w' w.heap.size ⟨0, 0, fun _ => none⟩ → Kept (fun _ => True) w w' → wpList Try.prog ops Q rest (a.put d (.pointer (some ⟨w.heap.size, 0, none⟩))) w') :
    wpList Try.prog ops Q (⟨d, .box 42 x, ty, p, af, none⟩ :: rest) a w := by
  refine wpList_plain rfl fun K hK => ?_
  unfold Oper.wp execOp
  simp only [Instr.box, Sem.run_bind, Sem.run_pure, newVar, hx]
  simp [newRow, Value.cells, Oper.upon, Result.andThen]
  exact hK _ _ (h _ ⟨heap_alloc_new w (.cells zs.toArray 42), ok_new⟩ ((Kept.refl _ _).alloc _))

/-- Both logs have what x has. -/
structure LP (w0 w : World) (L M n R : Nat) (x : Lo) : Prop where
  lm : LM w0 w L M n x
  rm : Rm w R x
  r0 : w0.heap.size ≤ R

section
variable {w0 w w' : World} {L M n m R : Nat} {x y : Lo}
theorem Rl.off {b t b' t' : Nat} {f f' : Vals} (h : Rl w R b t f) (h' : Lc w L M n b' t' f') : R ≠ L ∧ R ≠ M := by
  have h := h
  unfold Rl Af at h
  refine ⟨fun q => ?_, fun q => ?_⟩
  · subst q
    rw [h'.self] at h
    simp only [Option.some.injEq, Obj.cells.injEq] at h
    exact absurd h.2.1 (by decide)
  · subst q
    obtain ⟨es, clock, hb⟩ := h'.mp.isMap
    rw [hb] at h
    simp at h
theorem LP.off (h : LP w0 w L M n R x) : R ≠ L ∧ R ≠ M := h.rm.rl.off h.lm.lm.lc
theorem LP.ahead (h : LP w0 w L M n R x) (k : Kept (fun _ => True) w w') : LP w0 w' L M n R x := ⟨h.lm.ahead k, h.rm.kept k trivial, h.r0⟩
/-- Both have gone on. -/
theorem LP.both {w1 w2 : World} (h : LP w0 w L M n R x) (h1 : Lm w1 L M m y) (k1 : Kept (fun y => y ≠ L ∧ y ≠ M) w w1) (h2 : Rm w2 R y) (k2 : Kept (· ≠ R) w1 w2) : LP w0 w2 L M m R y :=
  ⟨(h.lm.step h1 k1).side k2 (Ne.symm h.off.1) (Ne.symm h.off.2) (fun i hi => by have := h.r0; omega), h2, h.r0⟩
end

end Go.Proofs.Ytmejeiadfcdogaa
