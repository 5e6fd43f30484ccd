/-
  A slice of texts that came in.
-/
import Derived.Test.YtkinpgkckbocpaaKArgs
import Derived.Test.YtkinpgkckbocpaaKPair
import Derived.Deep.Grids
namespace Go.Proofs.Ytkinpgkckbocpaa
open Go.RowKit Go.Deep Go.Joins Go.WideShapes Go.ChangeShapes Go.ChangeAt

theorem Try.cellsStrK : Try.prog.cellsOf 9 = 1 := by kernel_rfl
theorem open_textsk {H : Type} {enc : TypeId × Value → H} {W : World} {a : Option Addr} {len cap : Nat} {d : DataW H} {p : List MemPlace} (h : DataW.Trod enc Try.prog W 0 (fun _ => true) true 32 (.slice a len cap) d p) : IsTexts W a len := by
  obtain ⟨fuel, hf⟩ := h
  rcases open_slice1 Try.underlying32 Try.cellsStrK hf with ⟨hcs, hx⟩ | ⟨x, l, c, m, n, V, D, Pl, hcs, _, hl, hm, hmm, hx, hel⟩
  · simp [Value.cells] at hcs
    obtain ⟨rfl, rfl, rfl⟩ := hcs
    intro i hi
    omega
  · simp [Value.cells] at hcs
    obtain ⟨rfl, rfl, rfl⟩ := hcs
    simp only [if_true] at hmm
    subst hmm
    have key : ∀ i, i < len → ∃ s : List UInt8, W.cell? (x.add i) = some (.string ⟨s.toArray⟩) ∧ s.length ≤ 9223372036854775807 := by
      intro i hi
      obtain ⟨h1, h2⟩ := hel i (by omega)
      obtain ⟨s, e1, e2, hs⟩ := DataW.trod_string Try.underlying9 h2
      obtain ⟨⟨s⟩⟩ := s
      have eV : V i = .string ⟨s.toArray⟩ := by simpa using e1
      exact ⟨s, by rw [h1, eV], hs⟩
    intro i hi
    obtain ⟨b, off, spot⟩ := x
    obtain ⟨_, c0, _⟩ := key 0 (by omega)
    have hspot : spot = none := by simpa [Addr.add] using World.cell?_spot c0
    subst hspot
    obtain ⟨s, c0, hs⟩ := key i hi
    rw [add_plain] at c0
    exact ⟨b, off, s, rfl, c0, hs⟩

end Go.Proofs.Ytkinpgkckbocpaa
