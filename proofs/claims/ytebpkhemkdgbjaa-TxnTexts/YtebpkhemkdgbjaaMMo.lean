/-
  The law's moved; the books' Same of parts, the law's equal.
-/
import Derived.Test.YtebpkhemkdgbjaaMMv
import Derived.Test.YtebpkhemkdgbjaaMBx
namespace Go.Proofs.Ytebpkhemkdgbjaa
open Go.RowKit

theorem results_bx {fn : Func} {p : Nat} (h : fn.results = #[.cell p 24]) (tmps : Array Value) (w : World) {g : Nat} {x y : Value} {t : TypeId} {fr : Nat × Nat} (hp : tmps.getD p undef = .pointer (some ⟨g, 0, none⟩)) (hg : w.heap[g]? = some (.cells #[x, y] t fr)) :
    (results fn tmps).run Try.prog w = .ok (.agg #[x, y]) w :=
  results_cell_row h tmps w g t #[x, y] fr _ hp hg Try.underlying24 rfl Try.sizeMap
/-- Another Map into a variable. -/
theorem Bx.put {w : World} {B : Nat} {ao ao' : Option Addr} {cap cap' : Nat} {ep ep' : Int} {ps ps' : List Pa} (h : Bx w B ao cap ep ps) (h' : Pv w ao' ps') (hne : ∀ b off, ao' = some ⟨b, off, none⟩ → 0 < ps'.length → b ≠ B) : Bx ((w.setCell ⟨B, 0, none⟩ (.int .i64 ep')).setCell ⟨B, 1, none⟩ (.slice ao' ps'.length cap')) B ao' cap' ep' ps' := by
  refine ⟨mset_at (mset_at h.self 0 _) 1 _, ⟨fun h0 => ?_⟩⟩
  obtain ⟨b, off, e, hb, hc⟩ := h'.row h0
  have k : Kept (· ≠ B) w ((w.setCell ⟨B, 0, none⟩ (.int .i64 ep')).setCell ⟨B, 1, none⟩ (.slice ao' ps'.length cap')) := ((Kept.refl _ _).setCell (by simp) _).setCell (by simp) _
  have hq := hne b off e h0
  refine ⟨b, off, e, Nat.lt_of_lt_of_le hb k.size, fun i hi => ?_⟩
  obtain ⟨c0, c1, c2⟩ := hc i hi
  exact ⟨(kept_cell k hb hq).trans c0, (kept_cell k hb hq).trans c1, (kept_cell k hb hq).trans c2⟩
/-- Parts don't lie in a variable of the type Map that has two cells. -/
theorem Pv.off {w : World} {ao : Option Addr} {ps : List Pa} (h : Pv w ao ps) {B : Nat} {ao' : Option Addr} {cap' : Nat} {ep : Int} {qs : List Pa} (hB : Bx w B ao' cap' ep qs) : ∀ b off, ao = some ⟨b, off, none⟩ → 0 < ps.length → b ≠ B := by
  rintro b off rfl h0 rfl
  obtain ⟨b', off', e, hb, hc⟩ := h.row h0
  cases e
  obtain ⟨c0, c1, c2⟩ := hc 0 h0
  have hs := hB.self
  rw [cell_of_row w b _ _ _ _ hs] at c2
  simp at c2

/-- What moved leaves: a right Map. -/
def EMoved (w : World) (e : Ending) (w' : World) : Prop := ∃ ep' ps' ao' cap', e = .returned (.agg #[.int .i64 ep', .slice ao' ps'.length cap']) ∧ rgt ep' ps' = true ∧ Pv w' ao' ps' ∧ Kept (fun _ => True) w w'

end Go.Proofs.Ytebpkhemkdgbjaa
