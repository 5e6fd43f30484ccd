/-
  Slices of numbers and of Asks as arguments.
-/
import Derived.Test.YtmppejhcjnodhaaSArgs
import Derived.Test.YtmppejhcjnodhaaGAsks
import Derived.Deep.Slices
import Derived.Deep.Grids
import Derived.Lib.SmallJoins
namespace Go.Proofs.Ytmppejhcjnodhaa
open Go.RowKit Go.Deep Go.Joins Go.WideShapes Go.ChangeShapes Go.ChangeAt

theorem i64_wf {n : Int} (h : (Lit.int .i64 n).wf = true) : Fit64 n := by
  have e1 : IntKind.i64.min = -9223372036854775808 := by decide
  have e2 : IntKind.i64.max = 9223372036854775807 := by decide
  simp [Lit.wf, e1, e2] at h
  exact h

theorem Try.cellsInt : Try.prog.cellsOf 3 = 1 := by kernel_rfl
theorem open_nums {H : Type} {enc : TypeId × Value → H} {W : World} {a : Option Addr} {len cap : Nat} {d : DataW H} {p : List MemPlace} (h : DataW.Trod enc Try.prog W 0 (fun _ => true) true 55 (.slice a len cap) d p) : IsInts W a len := by
  obtain ⟨fuel, hf⟩ := h
  rcases open_ints Try.underlying55 Try.underlying3 Try.cellsInt hf with ⟨hcs, hx⟩ | ⟨x, l, c, zs, hcs, _, hl, hm, hz, hx, hcell, hwz⟩
  · simp [Value.cells] at hcs
    obtain ⟨rfl, rfl, rfl⟩ := hcs
    intro i hi
    omega
  · simp [Value.cells] at hcs
    obtain ⟨rfl, rfl, rfl⟩ := hcs
    simp only [if_true] at hz
    intro i hi
    obtain ⟨b, off, spot⟩ := x
    have hspot : spot = none := by simpa [Addr.add] using World.cell?_spot (hcell 0 (by omega))
    subst hspot
    have c0 := hcell i (by omega)
    rw [add_plain] at c0
    refine ⟨b, off, _, rfl, World.block_lt_of_cell? W _ c0, c0, ?_⟩
    have hi' : i < zs.length := by omega
    rw [List.getD_eq_getElem?_getD, List.getElem?_eq_getElem hi', Option.getD_some]
    exact i64_wf (hwz _ (List.getElem_mem hi'))

theorem Try.cellsAsk : Try.prog.cellsOf 49 = 4 := by kernel_rfl
/-- A struct of four. -/
theorem trod_quad {H : Type} {enc : TypeId × Value → H} {W : World} {t : TypeId} {f0 f1 f2 f3 : Field} {fuel : Nat} {cs : List Value} {x : DataW H × List MemPlace} (ht : Try.prog.underlying t = some (.struct #[f0, f1, f2, f3])) (h : DataW.trod enc Try.prog W 0 (fun _ => true) true fuel t cs = some x) :
    ∃ y0 y1 y2 y3 n, DataW.trod enc Try.prog W 0 (fun _ => true) true n f0.type ((cs.drop f0.offset).take (Try.prog.cellsOf f0.type)) = some y0 ∧
      DataW.trod enc Try.prog W 0 (fun _ => true) true n f1.type ((cs.drop f1.offset).take (Try.prog.cellsOf f1.type)) = some y1 ∧ DataW.trod enc Try.prog W 0 (fun _ => true) true n f2.type ((cs.drop f2.offset).take (Try.prog.cellsOf f2.type)) = some y2 ∧ DataW.trod enc Try.prog W 0 (fun _ => true) true n f3.type ((cs.drop f3.offset).take (Try.prog.cellsOf f3.type)) = some y3 := by
  obtain ⟨xs, n, _, rfl, hl, hlen, hf⟩ := DataW.trod_struct ht h
  match xs, hlen with
  | [y0, y1, y2, y3], _ => exact ⟨y0, y1, y2, y3, n, by simpa using hf 0 f0 rfl, by simpa using hf 1 f1 rfl, by simpa using hf 2 f2 rfl, by simpa using hf 3 f3 rfl⟩
theorem four_of {α : Type} {l : List α} (h : l.length = 4) : ∃ a b c d, l = [a, b, c, d] := by
  match l, h with
  | [a, b, c, d], _ => exact ⟨a, b, c, d, rfl⟩

set_option maxRecDepth 100000 in
theorem open_asksn {H : Type} {enc : TypeId × Value → H} {W : World} {a : Option Addr} {len cap : Nat} {d : DataW H} {p : List MemPlace} (h : DataW.Trod enc Try.prog W 0 (fun _ => true) true 45 (.slice a len cap) d p) : IsAsks W a len := by
  obtain ⟨fuel, hf⟩ := h
  rcases open_slice Try.underlying45 hf with ⟨hcs, hx⟩ | ⟨x, l, c, m, n, D, Pl, hcs, _, hl, hm, hmm, hx, hel⟩
  · simp [Value.cells] at hcs
    obtain ⟨rfl, rfl, rfl⟩ := hcs
    intro i hi
    omega
  · simp [Value.cells] at hcs
    obtain ⟨rfl, rfl, rfl⟩ := hcs
    simp only [if_true] at hmm
    subst hmm
    rw [Try.cellsAsk] at hel
    have key : ∀ i, i < len → ∃ v : AskV, W.cell? (x.add (i * 4 + 0)) = some (.int .i64 v.kind) ∧ W.cell? (x.add (i * 4 + 1)) = some (.int .i64 v.node) ∧ W.cell? (x.add (i * 4 + 2)) = some (.int .i64 v.now) ∧ W.cell? (x.add (i * 4 + 3)) = some (.int .i64 v.n) := by
      intro i hi
      obtain ⟨cs', h1, h2⟩ := hel i (by omega)
      obtain ⟨y0, y1, y2, y3, k, g0, g1, g2, g3⟩ := trod_quad Try.underlying49 h2
      obtain ⟨_, hl3, hc3⟩ := World.cells?_some h1
      obtain ⟨v0, v1, v2, v3, rfl⟩ := four_of hl3
      have e0 : DataW.trod enc Try.prog W 0 (fun _ => true) true k 3 [v0] = some y0 := g0
      have e1 : DataW.trod enc Try.prog W 0 (fun _ => true) true k 3 [v1] = some y1 := g1
      have e2 : DataW.trod enc Try.prog W 0 (fun _ => true) true k 3 [v2] = some y2 := g2
      have e3 : DataW.trod enc Try.prog W 0 (fun _ => true) true k 3 [v3] = some y3 := g3
      obtain ⟨z0, q0, rfl, w0⟩ := DataW.trod_int Try.underlying3 e0
      obtain ⟨z1, q1, rfl, w1⟩ := DataW.trod_int Try.underlying3 e1
      obtain ⟨z2, q2, rfl, w2⟩ := DataW.trod_int Try.underlying3 e2
      obtain ⟨z3, q3, rfl, w3⟩ := DataW.trod_int Try.underlying3 e3
      simp only [List.cons.injEq, and_true] at q0 q1 q2 q3
      subst q0 q1 q2 q3
      have c0 := hc3 0 (by omega)
      have c1 := hc3 1 (by omega)
      have c2 := hc3 2 (by omega)
      have c3 := hc3 3 (by omega)
      simp only [add_add] at c0 c1 c2 c3
      exact ⟨⟨z0, z1, z2, z3⟩, c0, c1, c2, c3⟩
    intro i hi
    obtain ⟨b, off, spot⟩ := x
    obtain ⟨_, c0, _⟩ := key 0 (by omega)
    have hspot : spot = none := by simpa [Addr.add] using World.cell?_spot c0
    subst hspot
    obtain ⟨v, c0, c1, c2, c3⟩ := key i hi
    rw [add_plain] at c0 c1 c2 c3
    exact ⟨b, off, v, rfl, by simpa using c0, by simpa [Nat.add_assoc] using c1, by simpa [Nat.add_assoc] using c2, by simpa [Nat.add_assoc] using c3⟩

end Go.Proofs.Ytmppejhcjnodhaa
