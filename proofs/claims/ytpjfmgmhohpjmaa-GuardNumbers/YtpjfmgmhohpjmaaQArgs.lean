/-
  Slices of numbers and of texts as arguments.
-/
import Derived.Test.YtpjfmgmhohpjmaaSArgs
import Derived.Test.YtpjfmgmhohpjmaaQ5
import Derived.Deep.Slices
import Derived.Deep.Grids
import Derived.Lib.SmallJoins
namespace Go.Proofs.Ytpjfmgmhohpjmaa
open Go.RowKit Go.Deep Go.Joins Go.WideShapes Go.ChangeShapes Go.ChangeAt

theorem Try.cellsInt : Try.prog.cellsOf 3 = 1 := by kernel_rfl
theorem open_numsv {H : Type} {enc : TypeId × Value → H} {W : World} {a : Option Addr} {len cap : Nat} {d : DataW H} {p : List MemPlace} (h : DataW.Trod enc Try.prog W 0 (fun _ => true) true 23 (.slice a len cap) d p) : ∃ ls : List Int, Vi W (.slice a len cap) ls := by
  obtain ⟨fuel, hf⟩ := h
  rcases open_ints Try.underlying23 Try.underlying3 Try.cellsInt hf with ⟨hcs, hx⟩ | ⟨x, l, c, zs, hcs, _, hl, hm, hz, hx, hcell, hwz⟩
  · simp [Value.cells] at hcs
    obtain ⟨rfl, rfl, rfl⟩ := hcs
    exact ⟨[], none, 0, rfl, fun h => by simp at h⟩
  · simp [Value.cells] at hcs
    obtain ⟨rfl, rfl, rfl⟩ := hcs
    simp only [if_true] at hz
    have hll : (zs.take len).length = len := by rw [List.length_take]; omega
    refine ⟨zs.take len, some x, cap, by rw [hll], fun h0 => ?_⟩
    rw [hll] at h0
    obtain ⟨b, off, spot⟩ := x
    have hspot : spot = none := by simpa [Addr.add] using World.cell?_spot (hcell 0 (by omega))
    subst hspot
    have hcc : ∀ i (h : i < zs.length), W.cell? ⟨b, off + i, none⟩ = some (.int .i64 zs[i]) := by
      intro i hi
      have c0 := hcell i hi
      rw [add_plain, List.getD_eq_getElem?_getD, List.getElem?_eq_getElem hi, Option.getD_some] at c0
      exact c0
    refine ⟨b, off, rfl, World.block_lt_of_cell? W _ (hcc 0 (by omega)), fun i hi => ?_⟩
    rw [hcc i (by omega)]
    simp

theorem Try.cellsStr : Try.prog.cellsOf 9 = 1 := by kernel_rfl
/-- A slice of texts that came in. -/
structure Nv (W : World) (a : Option Addr) (cap : Nat) (ns : List (List UInt8)) : Prop where
  le : ns.length ≤ cap
  cells : 0 < ns.length → ∃ b off, a = some ⟨b, off, none⟩ ∧ b < W.heap.size ∧ ∀ i (h : i < ns.length), W.cell? ⟨b, off + i, none⟩ = some (.string ⟨(ns[i]).toArray⟩)
theorem open_textsv {H : Type} {enc : TypeId × Value → H} {W : World} {a : Option Addr} {len cap : Nat} {d : DataW H} {p : List MemPlace} (h : DataW.Trod enc Try.prog W 0 (fun _ => true) true 22 (.slice a len cap) d p) : ∃ ns : List (List UInt8), ns.length = len ∧ Nv W a cap ns := by
  obtain ⟨fuel, hf⟩ := h
  rcases open_slice1 Try.underlying22 Try.cellsStr hf with ⟨hcs, hx⟩ | ⟨x, l, c, m, n, V, D, Pl, hcs, _, hl, hm, hmm, hx, hel⟩
  · simp [Value.cells] at hcs
    obtain ⟨rfl, rfl, rfl⟩ := hcs
    exact ⟨[], rfl, by simp, fun h => by simp at h⟩
  · simp [Value.cells] at hcs
    obtain ⟨rfl, rfl, rfl⟩ := hcs
    simp only [if_true] at hmm
    subst hmm
    have key : ∀ i, i < len → ∃ s : List UInt8, W.cell? (x.add i) = some (.string ⟨s.toArray⟩) := by
      intro i hi
      obtain ⟨h1, h2⟩ := hel i (by omega)
      obtain ⟨s, e1, e2, _⟩ := DataW.trod_string Try.underlying9 h2
      obtain ⟨⟨s⟩⟩ := s
      have eV : V i = .string ⟨s.toArray⟩ := by simpa using e1
      exact ⟨s, by rw [h1, eV]⟩
    obtain ⟨f, hf2⟩ : ∃ f : Nat → List UInt8, ∀ i, i < len → W.cell? (x.add i) = some (.string ⟨(f i).toArray⟩) := by
      classical
      refine ⟨fun i => if hi : i < len then Classical.choose (key i hi) else [], fun i hi => ?_⟩
      simp only [dif_pos hi]
      exact Classical.choose_spec (key i hi)
    refine ⟨(List.range len).map f, by simp, by simpa using hl, fun h0 => ?_⟩
    rw [List.length_map, List.length_range] at h0
    obtain ⟨b, off, spot⟩ := x
    have hspot : spot = none := by simpa [Addr.add] using World.cell?_spot (hf2 0 h0)
    subst hspot
    have hcc : ∀ i, i < len → W.cell? ⟨b, off + i, none⟩ = some (.string ⟨(f i).toArray⟩) := by
      intro i hi
      have := hf2 i hi
      rwa [add_plain] at this
    refine ⟨b, off, rfl, World.block_lt_of_cell? W _ (hcc 0 h0), fun i hi => ?_⟩
    rw [hcc i (by simpa using hi)]
    simp

end Go.Proofs.Ytpjfmgmhohpjmaa
