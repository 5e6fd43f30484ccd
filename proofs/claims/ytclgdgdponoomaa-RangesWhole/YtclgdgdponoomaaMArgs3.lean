/-
  Operations that came in.
-/
import Derived.Test.YtclgdgdponoomaaMArgs2
import Derived.Test.YtclgdgdponoomaaMSp
namespace Go.Proofs.Ytclgdgdponoomaa
open Go.RowKit Go.Deep Go.Joins Go.WideShapes Go.ChangeShapes Go.ChangeAt

theorem Try.cellsOpm : Try.prog.cellsOf 51 = 4 := by kernel_rfl
theorem mfour_of {α : Type} {l : List α} (h : l.length = 4) : ∃ a b c d, l = [a, b, c, d] := by
  match l, h with
  | [a, b, c, d], _ => exact ⟨a, b, c, d, rfl⟩
/-- A struct of four. -/
theorem trod_quad {H : Type} {enc : TypeId × Value → H} {W : World} {t : TypeId} {f0 f1 f2 f3 : Field} {fuel : Nat} {cs : List Value} {x : DataW H × List MemPlace} (ht : Try.prog.underlying t = some (.struct #[f0, f1, f2, f3])) (h : DataW.trod enc Try.prog W 0 (fun _ => true) true fuel t cs = some x) :
    ∃ y0 y1 y2 y3 n, x.1 = .agg [y0.1, y1.1, y2.1, y3.1] ∧ DataW.trod enc Try.prog W 0 (fun _ => true) true n f0.type ((cs.drop f0.offset).take (Try.prog.cellsOf f0.type)) = some y0 ∧ DataW.trod enc Try.prog W 0 (fun _ => true) true n f1.type ((cs.drop f1.offset).take (Try.prog.cellsOf f1.type)) = some y1 ∧
      DataW.trod enc Try.prog W 0 (fun _ => true) true n f2.type ((cs.drop f2.offset).take (Try.prog.cellsOf f2.type)) = some y2 ∧ DataW.trod enc Try.prog W 0 (fun _ => true) true n f3.type ((cs.drop f3.offset).take (Try.prog.cellsOf f3.type)) = some y3 := by
  obtain ⟨xs, n, _, rfl, hl, hlen, hf⟩ := DataW.trod_struct ht h
  match xs, hlen with
  | [y0, y1, y2, y3], _ => exact ⟨y0, y1, y2, y3, n, by simp, by simpa using hf 0 f0 rfl, by simpa using hf 1 f1 rfl, by simpa using hf 2 f2 rfl, by simpa using hf 3 f3 rfl⟩

set_option maxRecDepth 100000 in
theorem open_opsm {H : Type} {enc : TypeId × Value → H} {W : World} {a : Option Addr} {len cap : Nat} {d : DataW H} {p : List MemPlace} (h : DataW.Trod enc Try.prog W 0 (fun _ => true) true 44 (.slice a len cap) d p) (hr : ∀ n ∈ d.weights Try.prog 44, n ≤ reachBytes) :
    ∃ os : List Oz, os.length = len ∧ (Ov W a os ∧ (∀ o ∈ os, o.cas.length ≤ 140737488355328) ∧ len ≤ cap) := by
  obtain ⟨fuel, hf⟩ := h
  rcases open_slice Try.underlying44 hf with ⟨hcs, hx⟩ | ⟨x, l, c, m, n, D, Pl, hcs, _, hl, hm, hmm, hx, hel⟩
  · simp [Value.cells] at hcs
    obtain ⟨rfl, rfl, rfl⟩ := hcs
    exact ⟨[], rfl, ⟨fun h => by simp at h⟩, by simp, Nat.le_refl _⟩
  · simp [Value.cells] at hcs
    obtain ⟨rfl, rfl, rfl⟩ := hcs
    simp only [if_true] at hmm
    subst hmm
    have hd : d = .slice ((List.range len).map D) ((List.range (m - len)).map fun j => D (len + j)) := (Prod.mk.inj hx).1
    rw [Try.cellsOpm] at hel
    have key : ∀ i, i < len → ∃ o : Oz, W.cell? (x.add (i * 4 + 0)) = some (.int .i64 o.kind) ∧ W.cell? (x.add (i * 4 + 1)) = some (.string ⟨o.cas.toArray⟩) ∧ W.cell? (x.add (i * 4 + 2)) = some (.string ⟨o.name.toArray⟩) ∧ W.cell? (x.add (i * 4 + 3)) = some (.int .i64 o.n) ∧ o.cas.length ≤ 140737488355328 := by
      intro i hi
      obtain ⟨cs', h1, h2⟩ := hel i (by omega)
      obtain ⟨y0, y1, y2, y3, k, hx2, g0, g1, g2, g3⟩ := trod_quad Try.underlying51 h2
      obtain ⟨_, hl5, hc5⟩ := World.cells?_some h1
      obtain ⟨v0, v1, v2, v3, rfl⟩ := mfour_of hl5
      have e0 : DataW.trod enc Try.prog W 0 (fun _ => true) true k 3 [v0] = some y0 := g0
      have e1 : DataW.trod enc Try.prog W 0 (fun _ => true) true k 9 [v1] = some y1 := g1
      have e2 : DataW.trod enc Try.prog W 0 (fun _ => true) true k 9 [v2] = some y2 := g2
      have e3 : DataW.trod enc Try.prog W 0 (fun _ => true) true k 3 [v3] = some y3 := g3
      obtain ⟨z0, q0, rfl, _⟩ := DataW.trod_int Try.underlying3 e0
      obtain ⟨⟨⟨s1⟩⟩, q1, rfl, _⟩ := DataW.trod_string Try.underlying9 e1
      obtain ⟨⟨⟨s2⟩⟩, q2, rfl, _⟩ := DataW.trod_string Try.underlying9 e2
      obtain ⟨z3, q3, rfl, _⟩ := DataW.trod_int Try.underlying3 e3
      simp only [List.cons.injEq, and_true] at q0 q1 q2 q3
      subst q0 q1 q2 q3
      have c0 := hc5 0 (by omega)
      have c1 := hc5 1 (by omega)
      have c2 := hc5 2 (by omega)
      have c3 := hc5 3 (by omega)
      simp only [add_add] at c0 c1 c2 c3
      refine ⟨⟨z0, s1, s2, z3⟩, c0, c1, c2, c3, ?_⟩
      have := hr s1.length (by
        rw [hd]
        simp only [DataW.weights, Try.underlying44, List.mem_cons, List.mem_append]
        refine .inr (.inl (mweights_all (d := D i) (List.mem_map.2 ⟨i, List.mem_range.2 hi, rfl⟩) ?_))
        rw [show D i = _ from hx2]
        simp only [DataW.weights, Try.underlying51]
        exact DataW.weights_mem_each (j := 1) rfl rfl s1.length (by simp [DataW.weights]))
      simp only [reachBytes] at this
      show s1.length ≤ _
      omega
    obtain ⟨f, hf2⟩ : ∃ f : Nat → Oz, ∀ i, i < len → W.cell? (x.add (i * 4 + 0)) = some (.int .i64 (f i).kind) ∧ W.cell? (x.add (i * 4 + 1)) = some (.string ⟨(f i).cas.toArray⟩) ∧ W.cell? (x.add (i * 4 + 2)) = some (.string ⟨(f i).name.toArray⟩) ∧ W.cell? (x.add (i * 4 + 3)) = some (.int .i64 (f i).n) ∧ (f i).cas.length ≤ 140737488355328 := by
      classical
      refine ⟨fun i => if hi : i < len then Classical.choose (key i hi) else ⟨0, [], [], 0⟩, fun i hi => ?_⟩
      simp only [dif_pos hi]
      exact Classical.choose_spec (key i hi)
    refine ⟨(List.range len).map f, by simp, ⟨fun h0 => ?_⟩, fun y hy => ?_, hl⟩
    · rw [List.length_map, List.length_range] at h0
      obtain ⟨b, off, spot⟩ := x
      have hspot : spot = none := by simpa [Addr.add] using World.cell?_spot (hf2 0 h0).1
      subst hspot
      refine ⟨b, off, rfl, ?_, fun i hi => ?_⟩
      · have := (hf2 0 h0).1
        rw [add_plain] at this
        exact World.block_lt_of_cell? W _ this
      · obtain ⟨a0, a1, a2, a3, _⟩ := hf2 i (by simpa using hi)
        simp only [add_plain] at a0 a1 a2 a3
        simp only [List.getElem_map, List.getElem_range]
        exact ⟨by simpa using a0, by simpa [Nat.add_assoc] using a1, by simpa [Nat.add_assoc] using a2, by simpa [Nat.add_assoc] using a3⟩
    · obtain ⟨i, hi, rfl⟩ := List.mem_map.1 hy
      exact (hf2 i (List.mem_range.1 hi)).2.2.2.2

end Go.Proofs.Ytclgdgdponoomaa
