/-
  Texts that came in.
-/
import Derived.Test.YtciecjnmiacmeaaSArgs
import Derived.Test.YtciecjnmiacmeaaZFew
import Derived.Deep.Slices
import Derived.Lib.SmallJoins
namespace Go.Proofs.Ytciecjnmiacmeaa
open Go.RowKit Go.Deep Go.Joins Go.WideShapes Go.ChangeShapes Go.ChangeAt

theorem Try.cellsStr : Try.prog.cellsOf 9 = 1 := by kernel_rfl

theorem open_textsz {H : Type} {enc : TypeId × Value → H} {W : World} {a : Option Addr} {len cap : Nat} {d : DataW H} {p : List MemPlace} (h : DataW.Trod enc Try.prog W 0 (fun _ => true) true 24 (.slice a len cap) d p) : ∃ ns : List (List UInt8), ns.length = len ∧ Tv W a ns := by
  obtain ⟨fuel, hf⟩ := h
  rcases open_slice1 Try.underlying24 Try.cellsStr hf with ⟨hcs, _⟩ | ⟨x, l, c, m, n, V, D, Pl, hcs, _, hl, hm, hmm, _, hel⟩
  · simp [Value.cells] at hcs
    obtain ⟨rfl, rfl, rfl⟩ := hcs
    exact ⟨[], rfl, fun h => by simp at h⟩
  · simp [Value.cells] at hcs
    obtain ⟨rfl, rfl, rfl⟩ := hcs
    simp only [if_true] at hmm
    subst hmm
    have key : ∀ i, i < len → ∃ s : List UInt8, W.cell? (x.add i) = some (.string ⟨s.toArray⟩) := by
      intro i hi
      obtain ⟨h1, h2⟩ := hel i (by omega)
      obtain ⟨s, e1, e2, _⟩ := DataW.trod_string Try.underlying9 h2
      obtain ⟨⟨s⟩⟩ := s
      have eV : V i = .string ⟨s.toArray⟩ := by simpa using e1
      exact ⟨s, by rw [h1, eV]⟩
    obtain ⟨f, hf2⟩ : ∃ f : Nat → List UInt8, ∀ i, i < len → W.cell? (x.add i) = some (.string ⟨(f i).toArray⟩) := by
      classical
      refine ⟨fun i => if hi : i < len then Classical.choose (key i hi) else [], fun i hi => ?_⟩
      simp only [dif_pos hi]
      exact Classical.choose_spec (key i hi)
    refine ⟨(List.range len).map f, by simp, fun h0 => ?_⟩
    rw [List.length_map, List.length_range] at h0
    obtain ⟨b, off, spot⟩ := x
    have hspot : spot = none := by simpa [Addr.add] using World.cell?_spot (hf2 0 h0)
    subst hspot
    have hcc : ∀ i, i < len → W.cell? ⟨b, off + i, none⟩ = some (.string ⟨(f i).toArray⟩) := by
      intro i hi
      have := hf2 i hi
      rwa [add_plain] at this
    refine ⟨b, off, rfl, World.block_lt_of_cell? W _ (hcc 0 h0), fun i hi => ?_⟩
    rw [hcc i (by simpa using hi)]
    simp

end Go.Proofs.Ytciecjnmiacmeaa
