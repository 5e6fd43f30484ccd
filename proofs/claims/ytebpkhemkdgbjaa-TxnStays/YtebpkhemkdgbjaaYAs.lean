/-
  Slices of Asks of stage 18 that are looked at.
-/
import Derived.Test.YtebpkhemkdgbjaaY0
namespace Go.Proofs.Ytebpkhemkdgbjaa
open Go.RowKit

/-- One Ask. -/
structure Aq where
  kind : Int
  group : Int
  ar : Int
  wy : Int
  yes : Bool
  fits : Bool
  ta : Option Addr
  tc : Nat
  tx : List (List UInt8)
/-- A slice of Asks. -/
structure IsAskt (w : World) (a : Option Addr) (qs : List Aq) : Prop where
  row : 0 < qs.length → ∃ b off, a = some ⟨b, off, none⟩ ∧ b < w.heap.size ∧ ∀ i (h : i < qs.length), w.cell? ⟨b, off + i * 7, none⟩ = some (.int .i64 qs[i].kind) ∧ w.cell? ⟨b, off + i * 7 + 1, none⟩ = some (.int .i64 qs[i].group) ∧ w.cell? ⟨b, off + i * 7 + 2, none⟩ = some (.int .i64 qs[i].ar) ∧ w.cell? ⟨b, off + i * 7 + 3, none⟩ = some (.int .i64 qs[i].wy) ∧ w.cell? ⟨b, off + i * 7 + 4, none⟩ = some (.bool qs[i].yes) ∧ w.cell? ⟨b, off + i * 7 + 5, none⟩ = some (.bool qs[i].fits) ∧ w.cell? ⟨b, off + i * 7 + 6, none⟩ = some (.slice qs[i].ta qs[i].tx.length qs[i].tc)
  tx : ∀ i (h : i < qs.length), Xv (fun _ => True) w qs[i].ta qs[i].tc qs[i].tx
theorem IsAskt.all {w w' : World} {a : Option Addr} {qs : List Aq} (h : IsAskt w a qs) (k : Kept (fun _ => True) w w') : IsAskt w' a qs := by
  refine ⟨fun h0 => ?_, fun i hi => (h.tx i hi).all k⟩
  obtain ⟨b, off, e, hb, hc⟩ := h.row h0
  refine ⟨b, off, e, Nat.lt_of_lt_of_le hb k.size, fun i hi => ?_⟩
  obtain ⟨c0, c1, c2, c3, c4, c5, c6⟩ := hc i hi
  exact ⟨(kept_cell k hb trivial).trans c0, (kept_cell k hb trivial).trans c1, (kept_cell k hb trivial).trans c2, (kept_cell k hb trivial).trans c3, (kept_cell k hb trivial).trans c4, (kept_cell k hb trivial).trans c5, (kept_cell k hb trivial).trans c6⟩

end Go.Proofs.Ytebpkhemkdgbjaa
