/-
  A slice of texts that is looked at.
-/
import Derived.Test.YtkinpgkckbocpaaWStr
namespace Go.Proofs.Ytkinpgkckbocpaa
open Go.RowKit

/-- A slice of texts that is looked at. -/
def Ns (w : World) (v : Value) (ns : List (List UInt8)) : Prop :=
  ∃ ao cap, v = .slice ao ns.length cap ∧ ns.length ≤ 281474976710656 ∧ (0 < ns.length → ∃ b off, ao = some ⟨b, off, none⟩ ∧ b < w.heap.size ∧ ∀ i (h : i < ns.length), w.cell? ⟨b, off + i, none⟩ = some (.string ⟨(ns[i]).toArray⟩))
theorem Ns.all {w w' : World} {v : Value} {ns : List (List UInt8)} (h : Ns w v ns) (k : Kept (fun _ => True) w w') : Ns w' v ns := by
  obtain ⟨ao, cap, e, hl, h⟩ := h
  refine ⟨ao, cap, e, hl, fun h0 => ?_⟩
  obtain ⟨b, off, e, hb, hc⟩ := h h0
  exact ⟨b, off, e, Nat.lt_of_lt_of_le hb k.size, fun i hi => (kept_cell k hb trivial).trans (hc i hi)⟩
/-- A frame without block P, for what was there ahead of it. -/
theorem Kept.fresh {P : Nat} {a b c : World} (h : Kept (fun _ => True) a b) (k : Kept (· ≠ P) b c) (hP : a.heap.size ≤ P) : Kept (fun _ => True) a c :=
  h.then k (fun i hi _ => by omega)
theorem Ns.new {w : World} {g cap : Nat} {ns : List (List UInt8)} {fr : Nat × Nat} (h : w.heap[g]? = some (.cells (srow ns).toArray 9 fr)) (hl : ns.length ≤ 281474976710656) : Ns w (.slice (some ⟨g, 0, none⟩) ns.length cap) ns := by
  refine ⟨_, _, rfl, hl, fun _ => ⟨g, 0, rfl, lt_of_block h, fun i hi => ?_⟩⟩
  rw [cell_of_row w g _ _ _ _ h, Nat.zero_add]
  have := srow_get ns i hi
  simpa using this
theorem Ns.nil (w : World) : Ns w (.slice none 0 0) [] := ⟨none, 0, rfl, by simp, fun h => by simp at h⟩
theorem Txs.ns {w : World} {base : Nat} {v : Value} {ss : List (List UInt8)} (h : Txs w base v ss) (hl : ss.length ≤ 281474976710656) : Ns w v ss := by
  obtain ⟨ao, cap, rfl, hc, hg⟩ := h.shape
  refine ⟨ao, cap, rfl, hl, fun h0 => ?_⟩
  obtain ⟨g, rfl⟩ := hg h0
  refine ⟨g, 0, rfl, ?_, fun i hi => by rw [Nat.zero_add]; exact h.cell i hi⟩
  exact World.block_lt_of_cell? w _ (h.cell 0 h0)

end Go.Proofs.Ytkinpgkckbocpaa
