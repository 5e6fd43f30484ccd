/-
  Slices of three numbers each, of operations, and a Map, that came in.
-/
import Derived.Test.YtclgdgdponoomaaMArgs
import Derived.Test.YtclgdgdponoomaaM1
import Derived.Deep.Grids
namespace Go.Proofs.Ytclgdgdponoomaa
open Go.RowKit Go.Deep Go.Joins Go.WideShapes Go.ChangeShapes Go.ChangeAt

theorem Try.cellsTri : Try.prog.cellsOf 47 = 3 := by kernel_rfl
theorem Try.cellsIntm : Try.prog.cellsOf 3 = 1 := by kernel_rfl
theorem mthree_of {α : Type} {l : List α} (h : l.length = 3) : ∃ a b c, l = [a, b, c] := by
  match l, h with
  | [a, b, c], _ => exact ⟨a, b, c, rfl⟩
theorem pv_of {W : World} {x : Addr} {len : Nat} (key : ∀ i, i < len → ∃ p : Pa, W.cell? (x.add (i * 3 + 0)) = some (.int .i64 p.lo) ∧ W.cell? (x.add (i * 3 + 1)) = some (.int .i64 p.hi) ∧ W.cell? (x.add (i * 3 + 2)) = some (.int .i64 p.g)) :
    ∃ ms : List Pa, ms.length = len ∧ Pv W (some x) ms := by
  obtain ⟨f, hf⟩ : ∃ f : Nat → Pa, ∀ i, i < len → W.cell? (x.add (i * 3 + 0)) = some (.int .i64 (f i).lo) ∧ W.cell? (x.add (i * 3 + 1)) = some (.int .i64 (f i).hi) ∧ W.cell? (x.add (i * 3 + 2)) = some (.int .i64 (f i).g) := by
    classical
    refine ⟨fun i => if hi : i < len then Classical.choose (key i hi) else ⟨0, 0, 0⟩, fun i hi => ?_⟩
    simp only [dif_pos hi]
    exact Classical.choose_spec (key i hi)
  refine ⟨(List.range len).map f, by simp, ⟨fun h0 => ?_⟩⟩
  rw [List.length_map, List.length_range] at h0
  obtain ⟨b, off, spot⟩ := x
  have hspot : spot = none := by simpa [Addr.add] using World.cell?_spot (hf 0 h0).1
  subst hspot
  refine ⟨b, off, rfl, ?_, fun i hi => ?_⟩
  · have := (hf 0 h0).1
    rw [add_plain] at this
    exact World.block_lt_of_cell? W _ this
  · obtain ⟨a0, a1, a2⟩ := hf i (by simpa using hi)
    simp only [add_plain] at a0 a1 a2
    simp only [List.getElem_map, List.getElem_range]
    exact ⟨by simpa using a0, by simpa [Nat.add_assoc] using a1, by simpa [Nat.add_assoc] using a2⟩

theorem open_tris {H : Type} {enc : TypeId × Value → H} {W : World} {a : Option Addr} {len cap : Nat} {d : DataW H} {p : List MemPlace} (h : DataW.Trod enc Try.prog W 0 (fun _ => true) true 43 (.slice a len cap) d p) :
    ∃ ms : List Pa, ms.length = len ∧ Pv W a ms := by
  obtain ⟨fuel, hf⟩ := h
  rcases open_slice Try.underlying43 hf with ⟨hcs, hx⟩ | ⟨x, l, c, m, n, D, Pl, hcs, _, hl, hm, hmm, hx, hel⟩
  · simp [Value.cells] at hcs
    obtain ⟨rfl, rfl, rfl⟩ := hcs
    exact ⟨[], rfl, Pv.nil _ _⟩
  · simp [Value.cells] at hcs
    obtain ⟨rfl, rfl, rfl⟩ := hcs
    simp only [if_true] at hmm
    subst hmm
    rw [Try.cellsTri] at hel
    refine pv_of (fun i hi => ?_)
    obtain ⟨cs', h1, h2⟩ := hel i (by omega)
    obtain ⟨_, hl3, hc3⟩ := World.cells?_some h1
    obtain ⟨v0, v1, v2, rfl⟩ := mthree_of hl3
    obtain ⟨xs, k, _, _, _, hxl, hxs⟩ := DataW.trod_array Try.underlying47 h2
    obtain ⟨y0, y1, y2, rfl⟩ := mthree_of hxl
    rw [Try.cellsIntm] at hxs
    have e0 : DataW.trod enc Try.prog W 0 (fun _ => true) true k 3 [v0] = some y0 := hxs 0 (by omega)
    have e1 : DataW.trod enc Try.prog W 0 (fun _ => true) true k 3 [v1] = some y1 := hxs 1 (by omega)
    have e2 : DataW.trod enc Try.prog W 0 (fun _ => true) true k 3 [v2] = some y2 := hxs 2 (by omega)
    obtain ⟨z0, q0, rfl, _⟩ := DataW.trod_int Try.underlying3 e0
    obtain ⟨z1, q1, rfl, _⟩ := DataW.trod_int Try.underlying3 e1
    obtain ⟨z2, q2, rfl, _⟩ := DataW.trod_int Try.underlying3 e2
    simp only [List.cons.injEq, and_true] at q0 q1 q2
    subst q0 q1 q2
    have c0 := hc3 0 (by omega)
    have c1 := hc3 1 (by omega)
    have c2 := hc3 2 (by omega)
    simp only [add_add] at c0 c1 c2
    exact ⟨⟨z0, z1, z2⟩, c0, c1, c2⟩

end Go.Proofs.Ytclgdgdponoomaa
