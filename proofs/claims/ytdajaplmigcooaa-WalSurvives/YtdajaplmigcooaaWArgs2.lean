/-
  A slice of truths that came in; a byte's bounds.
-/
import Derived.Test.YtdajaplmigcooaaWArgs
import Derived.Test.YtdajaplmigcooaaLawWal2
import Derived.Deep.Grids
namespace Go.Proofs.Ytdajaplmigcooaa
open Go.RowKit Go.Deep Go.Joins Go.WideShapes Go.ChangeShapes Go.ChangeAt

theorem Try.cellsBool : Try.prog.cellsOf 4 = 1 := by kernel_rfl
theorem open_truths {H : Type} {enc : TypeId × Value → H} {W : World} {a : Option Addr} {len cap : Nat} {d : DataW H} {p : List MemPlace} (h : DataW.Trod enc Try.prog W 0 (fun _ => true) true 37 (.slice a len cap) d p) : ∃ B, IsBools W a len B := by
  obtain ⟨fuel, hf⟩ := h
  rcases open_bools Try.underlying37 Try.underlying4 Try.cellsBool hf with ⟨hcs, _⟩ | ⟨x, l, c, B, hcs, _, hl, _, _, hx⟩
  · simp [Value.cells] at hcs
    obtain ⟨rfl, rfl, rfl⟩ := hcs
    exact ⟨fun _ => false, fun h => by omega⟩
  · simp [Value.cells] at hcs
    obtain ⟨rfl, rfl, rfl⟩ := hcs
    refine ⟨B, fun h0 => ?_⟩
    obtain ⟨b, off, spot⟩ := x
    have h00 := hx 0 (by omega)
    have hs : spot = none := by simpa [Addr.add] using World.cell?_spot h00
    subst hs
    refine ⟨b, off, rfl, ?_, fun i hi => ?_⟩
    · rw [add_plain] at h00
      exact World.block_lt_of_cell? W _ h00
    · have := hx i (by omega)
      rwa [add_plain] at this

theorem u8_bounds {n : Int} (h : (Lit.int .u8 n).wf = true) : 0 ≤ n ∧ n < 256 := by
  simp [Lit.wf, IntKind.min, IntKind.max, IntKind.bits, IntKind.signed] at h
  omega

end Go.Proofs.Ytdajaplmigcooaa
