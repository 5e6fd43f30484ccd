/-
  append(texts, text) in a region that draws, behind a guard that lets it through.
-/
import Derived.Test.YtjobddbcalafhaaWAsks
import Derived.Deep.RegionHeldLaw
namespace Go.Proofs.Ytjobddbcalafhaa
open Go.RowKit

theorem step_append_text_w {w : World} {ops : Array Oper} {o : Oper} {a : Act} {K : Act → World → Prop} {Q : Exit → Act → World → Prop} {E : Prop} (hw : Region.wanted o (yielded ops a.tmps) = true) (sl y : Operand) (ho : o.op = .call { callee := .builtin .append, args := #[sl, y], argTypes := #[31, 31] })
    (base : Nat) (v : Value) (ss : List (List UInt8)) (hs : a.eval sl = v) (h : Txs w base v ss) (hb : base ≤ w.heap.size) (G : Nat) (hy : a.eval y = .slice (some ⟨G, 0, none⟩) 1 1) (s : List UInt8) (fr : Nat × Nat) (hG : w.heap[G]? = some (.cells #[.string ⟨s.toArray⟩] 9 fr)) (hm : ss.length ≤ 1099511627776)
    (hK : ∀ ao' cap' w', Txs w' base (.slice ao' (ss.length + 1) cap') (ss ++ [s]) → w.grownBy w' v.ownBlock → ((Value.slice ao' (ss.length + 1) cap').ownBlock = v.ownBlock ∨ (Value.slice ao' (ss.length + 1) cap').ownBlock = some w.heap.size) → K (a.put o.dst (.slice ao' (ss.length + 1) cap')) w') : if Region.wanted o (yielded ops a.tmps) = true then Oper.wp Try.prog o a w K Q else E := by
  rw [if_pos hw]
  obtain ⟨ao', cap', w', hr, h2, h3, h4⟩ := append_text w o.type base v ss h hb G s fr hG hm
  unfold Oper.wp execOp
  simp only [ho, resolve, invoke, builtin, Sem.run_bind, Sem.run_pure, Result.andThen_ok, List.map_toArray, List.map_cons, List.map_nil, hs, hy, hr]
  exact hK ao' cap' w' h2 h3 h4

end Go.Proofs.Ytjobddbcalafhaa
