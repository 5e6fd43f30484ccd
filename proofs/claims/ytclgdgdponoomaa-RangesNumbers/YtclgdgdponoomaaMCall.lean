/-
  A call of a Go function as one step of a region that draws, by its contract.
-/
import Derived.Test.YtclgdgdponoomaaSB
namespace Go.Proofs.Ytclgdgdponoomaa
open Go.RowKit

theorem run_enter {f : Nat} {fn : Func} (hf : Try.prog.funcs[f]? = some fn) (hn : (fn.name == "runtime.NumGoroutine") = false) (hb : fn.body.isNone = false) (vs : Array Value) (w : World) : (callFunc f vs).run Try.prog w = .ok (.enter f vs) w := by
  have hn' : fn.name ≠ "runtime.NumGoroutine" := by simpa using hn
  have hb' : fn.body ≠ none := fun e => by rw [e] at hb; cases hb
  simp [callFunc, hf, hn', hb']

theorem step_call {w : World} {ops : Array Oper} {o : Oper} {a : Act} {K : Act → World → Prop} {Q : Exit → Act → World → Prop} {E : Prop} (hgd : o.guard = none) (f : Nat) (args : Array Operand) (ats : Array TypeId) (ho : o.op = .call { callee := .value (.func f), args := args, argTypes := ats })
    {vs : Array Value} (hv' : args.toList.map a.eval = vs.toList) (hf : (callFunc f vs).run Try.prog w = .ok (.enter f vs) w) {R : Ending → World → Prop} (hc : Calls Try.prog f vs w R) (h : ∀ e w', R e w' → ∃ v, e = .returned v ∧ K (a.put o.dst v) w') : if Region.wanted o (yielded ops a.tmps) = true then Oper.wp Try.prog o a w K Q else E := by
  have hv : args.map a.eval = vs := Array.ext' (by rw [Array.toList_map]; exact hv')
  have hw : Region.wanted o (yielded ops a.tmps) = true := by simp [Region.wanted, hgd]
  rw [if_pos hw]
  unfold Oper.wp execOp
  simp only [ho, resolve, invoke, Sem.run_bind, hv]
  simp [Deferred.ofValue, Act.eval, hf, Oper.upon]
  refine Calls.mono hc fun e w' hr => ?_
  obtain ⟨v, rfl, hk⟩ := h e w' hr
  exact hk

end Go.Proofs.Ytclgdgdponoomaa
