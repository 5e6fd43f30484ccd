/-
  Slices of texts in memory that are appended to.
-/
import Derived.Test.YtmiccehdljammaaSB
namespace Go.Proofs.Ytmiccehdljammaa
open Go.RowKit

/-- Texts as cells. -/
def srow (ss : List (List UInt8)) : List Value := ss.map fun s => .string ⟨s.toArray⟩
theorem srow_length (ss : List (List UInt8)) : (srow ss).length = ss.length := by simp [srow]
theorem srow_append (a b : List (List UInt8)) : srow (a ++ b) = srow a ++ srow b := by simp [srow]
theorem srow_get (ss : List (List UInt8)) (k : Nat) (h : k < ss.length) : (srow ss)[k]? = some (.string ⟨(ss[k]).toArray⟩) := by simp [srow, h]
theorem srow_one (ss : List (List UInt8)) : ∀ u ∈ srow ss, u.oneCell' = true := by
  intro u hu
  obtain ⟨_, _, rfl⟩ := List.mem_map.1 hu
  rfl

theorem Try.infoText : (Try.prog.info? 9).map (fun i => (i.zero, i.size, i.bytes)) = some (some (.string ⟨#[]⟩), 1, 16) := by kernel_rfl
/-- A slice of the texts ss, in a row of its own behind 'base'. -/
def Txs (w : World) (base : Nat) (v : Value) (ss : List (List UInt8)) : Prop := w.ownsRow base 9 1 v ss.length (srow ss)
theorem Txs.nil (w : World) (base : Nat) : Txs w base (.slice none 0 0) [] := World.ownsRow_nil _ _ _ _
theorem Txs.kept {p : Nat → Prop} {w w' : World} {base : Nat} {v : Value} {ss : List (List UInt8)} (h : Txs w base v ss) (hk : Kept p w w') (hp : ∀ k, v.ownBlock = some k → p k) : Txs w' base v ss := by
  refine ⟨h.1, ?_⟩
  rcases h.2 with h0 | ⟨g, cap, cur, rfl, hb, hh, rest⟩
  · exact .inl h0
  · exact .inr ⟨g, cap, cur, rfl, hb, (hk.block g (lt_of_block hh) (hp g rfl)).trans hh, rest⟩
theorem Txs.shape {w : World} {base : Nat} {v : Value} {ss : List (List UInt8)} (h : Txs w base v ss) : ∃ ao cap, v = .slice ao ss.length cap ∧ ss.length ≤ cap ∧ (0 < ss.length → ∃ g, ao = some ⟨g, 0, none⟩) := by
  rcases h.2 with ⟨hv, h0⟩ | ⟨g, cap, cur, hv, _, hh, hc, _⟩
  · exact ⟨none, 0, by rw [hv, h0], by omega, fun hp => by omega⟩
  · exact ⟨_, cap, hv, hc, fun _ => ⟨g, rfl⟩⟩
theorem Txs.cell {w : World} {base g n cap : Nat} {ss : List (List UInt8)} (h : Txs w base (.slice (some ⟨g, 0, none⟩) n cap) ss) (k : Nat) (hk : k < ss.length) : w.cell? ⟨g, k, none⟩ = some (.string ⟨(ss[k]).toArray⟩) := by
  obtain ⟨ao, cap', e, _, _⟩ := h.shape
  injection e with e1 e2 e3
  subst e2
  have h' : w.ownsRow base 9 1 (.slice (some ⟨g, 0, none⟩) ss.length cap) ss.length (srow ss) := h
  exact (h'.cellAt k (by omega)).trans (srow_get ss k hk)

theorem own_shape_any {w : World} {b e sz n : Nat} {v : Value} {xs : List Value} (h : w.ownsRow b e sz v n xs) : ∃ ao cap, v = .slice ao n cap := by
  rcases h.2 with ⟨e, rfl⟩ | ⟨g, cap, _, e, _⟩
  · exact ⟨_, _, e⟩
  · exact ⟨_, _, e⟩

end Go.Proofs.Ytmiccehdljammaa
