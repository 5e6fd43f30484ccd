/-
  A slice of Asks that came in.
-/
import Derived.Test.YtabemdmapadaoaaDArgs
import Derived.Test.YtabemdmapadaoaaDAsks
namespace Go.Proofs.Ytabemdmapadaoaa
open Go.RowKit Go.Deep Go.Joins Go.WideShapes Go.ChangeShapes Go.ChangeAt

theorem Try.cellsAsk : Try.prog.cellsOf 37 = 3 := by kernel_rfl

theorem open_asks {H : Type} {enc : TypeId × Value → H} {W : World} {a : Option Addr} {len cap : Nat} {d : DataW H} {p : List MemPlace} (h : DataW.Trod enc Try.prog W 0 (fun _ => true) true 32 (.slice a len cap) d p) : IsAsks W a len := by
  obtain ⟨fuel, hf⟩ := h
  rcases open_slice Try.underlying32 hf with ⟨hcs, hx⟩ | ⟨x, l, c, m, n, D, Pl, hcs, _, hl, hm, hmm, hx, hel⟩
  · simp [Value.cells] at hcs
    obtain ⟨rfl, rfl, rfl⟩ := hcs
    intro i hi
    omega
  · simp [Value.cells] at hcs
    obtain ⟨rfl, rfl, rfl⟩ := hcs
    simp only [if_true] at hmm
    subst hmm
    rw [Try.cellsAsk] at hel
    have key : ∀ i, i < m → ∃ z0 z1 v, W.cell? (x.add (i * 3 + 0)) = some (.int .i64 z0) ∧ W.cell? (x.add (i * 3 + 1)) = some (.int .i64 z1) ∧ W.cell? (x.add (i * 3 + 2)) = some v ∧ IsB W v := by
      intro i hi
      obtain ⟨cs', h1, h2⟩ := hel i hi
      obtain ⟨y0, y1, y2, k, hx2, hlen, g0, g1, g2⟩ := trod_struct3 Try.underlying37 h2
      obtain ⟨_, hl3, hc3⟩ := World.cells?_some h1
      match cs', hl3 with
      | [v0, v1, v2], _ =>
        have e0 : DataW.trod enc Try.prog W 0 (fun _ => true) true k 3 [v0] = some y0 := g0
        have e1 : DataW.trod enc Try.prog W 0 (fun _ => true) true k 3 [v1] = some y1 := g1
        have e2 : DataW.trod enc Try.prog W 0 (fun _ => true) true k 27 [v2] = some y2 := g2
        obtain ⟨z0, q0, rfl, w0⟩ := DataW.trod_int Try.underlying3 e0
        obtain ⟨z1, q1, rfl, w1⟩ := DataW.trod_int Try.underlying3 e1
        simp at q0 q1
        subst q0 q1
        have c0 := hc3 0 (by omega)
        have c1 := hc3 1 (by omega)
        have c2 := hc3 2 (by omega)
        simp only [add_add] at c0 c1 c2
        exact ⟨z0, z1, v2, c0, c1, c2, isB_of e2⟩
    intro i hi
    obtain ⟨b, off, spot⟩ := x
    obtain ⟨_, _, _, c0, _⟩ := key 0 (by omega)
    have hspot : spot = none := by simpa [Addr.add] using World.cell?_spot c0
    subst hspot
    obtain ⟨z0, z1, v, c0, c1, c2, hv⟩ := key i (by omega)
    rw [add_plain] at c0 c1 c2
    refine ⟨b, off, z0, z1, v, rfl, World.block_lt_of_cell? W _ c0, by simpa using c0, by simpa [Nat.add_assoc] using c1, by simpa [Nat.add_assoc] using c2, hv⟩

end Go.Proofs.Ytabemdmapadaoaa
