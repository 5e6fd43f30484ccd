/-
  A slice of readings as an argument.
-/
import Derived.Test.YtmppejhcjnodhaaSArgs
import Derived.Test.YtmppejhcjnodhaaG3
import Derived.Deep.Slices
import Derived.Deep.Grids
import Derived.Lib.SmallJoins
namespace Go.Proofs.Ytmppejhcjnodhaa
open Go.RowKit Go.Deep Go.Joins Go.WideShapes Go.ChangeShapes Go.ChangeAt

theorem Try.cellsRd : Try.prog.cellsOf 35 = 2 := by kernel_rfl
/-- A struct of two. -/
theorem trod_two {H : Type} {enc : TypeId × Value → H} {W : World} {t : TypeId} {f0 f1 : Field} {fuel : Nat} {cs : List Value} {x : DataW H × List MemPlace} (ht : Try.prog.underlying t = some (.struct #[f0, f1])) (h : DataW.trod enc Try.prog W 0 (fun _ => true) true fuel t cs = some x) :
    ∃ y0 y1 n, DataW.trod enc Try.prog W 0 (fun _ => true) true n f0.type ((cs.drop f0.offset).take (Try.prog.cellsOf f0.type)) = some y0 ∧
      DataW.trod enc Try.prog W 0 (fun _ => true) true n f1.type ((cs.drop f1.offset).take (Try.prog.cellsOf f1.type)) = some y1 := by
  obtain ⟨xs, n, _, rfl, hl, hlen, hf⟩ := DataW.trod_struct ht h
  match xs, hlen with
  | [y0, y1], _ => exact ⟨y0, y1, n, by simpa using hf 0 f0 rfl, by simpa using hf 1 f1 rfl⟩

set_option maxRecDepth 100000 in
theorem open_reads {H : Type} {enc : TypeId × Value → H} {W : World} {a : Option Addr} {len cap : Nat} {d : DataW H} {p : List MemPlace} (h : DataW.Trod enc Try.prog W 0 (fun _ => true) true 36 (.slice a len cap) d p) :
    ∃ xs : List (Int × Int), xs.length = len ∧ Rd W a xs ∧ (a = none → cap = 0 ∧ xs = []) ∧ len ≤ cap := by
  obtain ⟨fuel, hf⟩ := h
  rcases open_slice Try.underlying36 hf with ⟨hcs, hx⟩ | ⟨x, l, c, m, n, D, Pl, hcs, _, hl, hm, hmm, hx, hel⟩
  · simp [Value.cells] at hcs
    obtain ⟨rfl, rfl, rfl⟩ := hcs
    exact ⟨[], rfl, ⟨fun h => by simp at h⟩, fun _ => ⟨rfl, rfl⟩, Nat.le_refl _⟩
  · simp [Value.cells] at hcs
    obtain ⟨rfl, rfl, rfl⟩ := hcs
    simp only [if_true] at hmm
    subst hmm
    rw [Try.cellsRd] at hel
    have key : ∀ i, i < len → ∃ v : Int × Int, W.cell? (x.add (i * 2 + 0)) = some (.int .i64 v.1) ∧ W.cell? (x.add (i * 2 + 1)) = some (.int .i64 v.2) := by
      intro i hi
      obtain ⟨cs', h1, h2⟩ := hel i (by omega)
      obtain ⟨y0, y1, k, g0, g1⟩ := trod_two Try.underlying35 h2
      obtain ⟨_, hl2, hc2⟩ := World.cells?_some h1
      obtain ⟨v0, v1, rfl⟩ : ∃ v0 v1, cs' = [v0, v1] := by
        match cs', hl2 with
        | [v0, v1], _ => exact ⟨v0, v1, rfl⟩
      have e0 : DataW.trod enc Try.prog W 0 (fun _ => true) true k 3 [v0] = some y0 := g0
      have e1 : DataW.trod enc Try.prog W 0 (fun _ => true) true k 3 [v1] = some y1 := g1
      obtain ⟨z0, q0, rfl, w0⟩ := DataW.trod_int Try.underlying3 e0
      obtain ⟨z1, q1, rfl, w1⟩ := DataW.trod_int Try.underlying3 e1
      simp only [List.cons.injEq, and_true] at q0 q1
      subst q0 q1
      have c0 := hc2 0 (by omega)
      have c1 := hc2 1 (by omega)
      simp only [add_add] at c0 c1
      exact ⟨(z0, z1), c0, c1⟩
    obtain ⟨f, hf2⟩ : ∃ f : Nat → Int × Int, ∀ i, i < len → W.cell? (x.add (i * 2 + 0)) = some (.int .i64 (f i).1) ∧ W.cell? (x.add (i * 2 + 1)) = some (.int .i64 (f i).2) := by
      classical
      refine ⟨fun i => if hi : i < len then Classical.choose (key i hi) else (0, 0), fun i hi => ?_⟩
      simp only [dif_pos hi]
      exact Classical.choose_spec (key i hi)
    refine ⟨(List.range len).map f, by simp, ⟨fun h0 => ?_⟩, by simp, by omega⟩
    rw [List.length_map, List.length_range] at h0
    obtain ⟨b, off, spot⟩ := x
    have hspot : spot = none := by simpa [Addr.add] using World.cell?_spot (hf2 0 h0).1
    subst hspot
    refine ⟨b, off, rfl, ?_, fun i hi => ?_⟩
    · have := (hf2 0 h0).1
      rw [add_plain] at this
      exact World.block_lt_of_cell? W _ this
    · have := hf2 i (by simpa using hi)
      rw [add_plain, add_plain] at this
      simpa [Nat.add_assoc] using this

end Go.Proofs.Ytmppejhcjnodhaa
