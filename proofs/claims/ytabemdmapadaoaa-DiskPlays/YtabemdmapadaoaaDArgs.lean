/-
  Slices of slices of bytes, and slices of numbers, that came in.
-/
import Derived.Test.YtabemdmapadaoaaSArgs
import Derived.Test.YtabemdmapadaoaaDRows
import Derived.Deep.Slices
import Derived.Lib.SmallJoins
namespace Go.Proofs.Ytabemdmapadaoaa
open Go.RowKit Go.Deep Go.Joins Go.WideShapes Go.ChangeShapes Go.ChangeAt

theorem isB_of {H : Type} {enc : TypeId × Value → H} {W : World} {fuel : Nat} {v : Value} {x : DataW H × List MemPlace} (h : DataW.trod enc Try.prog W 0 (fun _ => true) true fuel 27 [v] = some x) : IsB W v := by
  rcases open_ints Try.underlying27 Try.underlying5 cellsU8 h with ⟨hcs, _⟩ | ⟨a, l, c, zs, hcs, _⟩
  · simp at hcs
    subst hcs
    exact ⟨none, 0, [], rfl, fun h => by simp at h, fun _ => rfl, Nat.le_refl _⟩
  · simp at hcs
    subst hcs
    have ht : DataW.Trod enc Try.prog W 0 (fun _ => true) true 27 (.slice (some a) l c) x.1 x.2 := ⟨fuel, h⟩
    have hn := nil_cap ht
    have hc := len_cap ht
    obtain ⟨bs, rfl, hh, _, _⟩ := open_bytes ht
    exact ⟨some a, c, bs, rfl, hh, hn, hc⟩

theorem Try.cellsBytes : Try.prog.cellsOf 27 = 1 := by kernel_rfl
theorem Try.cellsInt : Try.prog.cellsOf 3 = 1 := by kernel_rfl

theorem open_rows {H : Type} {enc : TypeId × Value → H} {W : World} {a : Option Addr} {len cap : Nat} {d : DataW H} {p : List MemPlace} (h : DataW.Trod enc Try.prog W 0 (fun _ => true) true 45 (.slice a len cap) d p) : IsRows W a len := by
  obtain ⟨fuel, hf⟩ := h
  rcases open_slice Try.underlying45 hf with ⟨hcs, hx⟩ | ⟨x, l, c, m, n, D, Pl, hcs, _, hl, hm, hmm, hx, hel⟩
  · simp [Value.cells] at hcs
    obtain ⟨rfl, rfl, rfl⟩ := hcs
    intro i hi
    omega
  · simp [Value.cells] at hcs
    obtain ⟨rfl, rfl, rfl⟩ := hcs
    simp only [if_true] at hmm
    subst hmm
    rw [Try.cellsBytes] at hel
    have key : ∀ i, i < m → ∃ v, W.cell? (x.add (i * 1 + 0)) = some v ∧ IsB W v := by
      intro i hi
      obtain ⟨cs', h1, h2⟩ := hel i hi
      obtain ⟨_, hl1, hc1⟩ := World.cells?_some h1
      match cs', hl1 with
      | [v], _ =>
        have c0 : W.cell? ((x.add (i * 1)).add 0) = some v := (hc1 0 (by omega)).trans rfl
        rw [add_add] at c0
        exact ⟨v, c0, isB_of h2⟩
    intro i hi
    obtain ⟨b, off, spot⟩ := x
    obtain ⟨v0, c0, _⟩ := key 0 (by omega)
    have hspot : spot = none := by simpa [Addr.add] using World.cell?_spot c0
    subst hspot
    obtain ⟨v, c0, hv⟩ := key i (by omega)
    rw [add_plain] at c0
    have e : off + (i * 1 + 0) = off + i := by omega
    rw [e] at c0
    exact ⟨b, off, v, rfl, World.block_lt_of_cell? W _ c0, c0, hv⟩

theorem open_nums {H : Type} {enc : TypeId × Value → H} {W : World} {a : Option Addr} {len cap : Nat} {d : DataW H} {p : List MemPlace} (h : DataW.Trod enc Try.prog W 0 (fun _ => true) true 46 (.slice a len cap) d p) : IsInts W a len := by
  obtain ⟨fuel, hf⟩ := h
  rcases open_ints Try.underlying46 Try.underlying3 Try.cellsInt hf with ⟨hcs, hx⟩ | ⟨x, l, c, zs, hcs, _, hl, hm, hz, hx, hcell, hwz⟩
  · simp [Value.cells] at hcs
    obtain ⟨rfl, rfl, rfl⟩ := hcs
    intro i hi
    omega
  · simp [Value.cells] at hcs
    obtain ⟨rfl, rfl, rfl⟩ := hcs
    simp only [if_true] at hz
    intro i hi
    obtain ⟨b, off, spot⟩ := x
    have hspot : spot = none := by simpa [Addr.add] using World.cell?_spot (hcell 0 (by omega))
    subst hspot
    have c0 := hcell i (by omega)
    rw [add_plain] at c0
    exact ⟨b, off, _, rfl, World.block_lt_of_cell? W _ c0, c0⟩

end Go.Proofs.Ytabemdmapadaoaa
