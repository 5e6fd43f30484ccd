/-
  Bytes of a text, and bytes that a law writes to.
-/
import Derived.Test.YtlgcecndfejngaaN8
import Derived.BigRegion
namespace Go.Proofs.Ytlgcecndfejngaa
open Go.RowKit

/-- A slice of n bytes that may be written to. -/
def Wb (w : World) (bo : Option Addr) (n : Nat) : Prop := ∀ j, j < n → ∃ R m, bo = some ⟨R, 0, none⟩ ∧ w.cell? ⟨R, j, none⟩ = some (.int .u8 m) ∧ w.frozen? ⟨R, j, none⟩ = false

theorem Wb.own {w : World} {b n bc : Nat} {bo : Option Addr} {bs : List UInt8} (h : w.ownsRow b 5 1 (.slice bo n bc) n (cells bs)) : Wb w bo n := by
  intro j hj
  obtain ⟨g, cap, e, -, -⟩ := h.form (by omega)
  injection e with e1 e2 e3
  subst e1 e3
  have hl : n = bs.length := by have := h.1; rw [cells_length] at this; omega
  exact ⟨g, _, rfl, (h.cellAt j (by omega)).trans (cells_getElem bs j (by omega)), h.frozenAt j⟩
theorem Wb.kept {p : Nat → Prop} {w w' : World} {bo : Option Addr} {n : Nat} (h : Wb w bo n) (k : Kept p w w') (hp : ∀ ad, bo = some ad → p ad.block) : Wb w' bo n := by
  intro j hj
  obtain ⟨R, m, rfl, hc, hf⟩ := h j hj
  have hlt : R < w.heap.size := World.block_lt_of_cell? w _ hc
  exact ⟨R, m, rfl, (kept_cell k hlt (hp _ rfl)).trans hc, (kept_frozen k hlt (hp _ rfl)).trans hf⟩
theorem Wb.set {w : World} {R n : Nat} (h : Wb w (some ⟨R, 0, none⟩) n) (k : Nat) (x : Int) : Wb (w.setCell ⟨R, k, none⟩ (.int .u8 x)) (some ⟨R, 0, none⟩) n := by
  intro j hj
  obtain ⟨R', m, e, hc, hf⟩ := h j hj
  cases e
  refine ⟨R, if j = k then x else m, rfl, ?_, by simpa using hf⟩
  by_cases hjk : j = k
  · subst hjk
    rw [if_pos rfl]
    exact World.cell?_setCell_same _ _ _ hc
  · rw [if_neg hjk]
    exact (World.cell?_setCell_other _ _ _ _ (by intro e; injection e; omega)).trans hc

/-- []byte(s) of a text. -/
theorem conv_str (w : World) (bs : List UInt8) : ∃ cap w1, (convert 9 27 (.string ⟨bs.toArray⟩)).run Try.prog w = .ok (.slice (some ⟨w.heap.size, 0, none⟩) bs.length cap) w1 ∧ Has w1 (some ⟨w.heap.size, 0, none⟩) bs ∧ Kept (fun _ => True) w w1 ∧ Wb w1 (some ⟨w.heap.size, 0, none⟩) bs.length ∧ w.heap.size < w1.heap.size := by
  have hc : ∀ j (hj : j < bs.length), (Lib.bytesWorld w 5 ⟨bs.toArray⟩).cell? ⟨w.heap.size, j, none⟩ = some (.int .u8 (bs[j]).toNat) := fun j hj => by
    rw [Lib.bytesWorld_cell w 5 ⟨bs.toArray⟩ j hj]
    simp [List.getD, List.getElem?_eq_getElem hj]
  refine ⟨_, _, Lib.run_convert_string_bytes (P := Try.prog) w 9 27 5 ⟨bs.toArray⟩ Try.underlying9 Try.underlying27 Try.underlying5, ?_, ?_, ?_, ?_⟩
  · intro _
    refine ⟨_, rfl, fun j hj => ?_⟩
    rw [WideShapes.add_plain, Nat.zero_add]
    exact hc j hj
  · refine ⟨rfl, rfl, rfl, ?_, fun k hk _ => Lib.bytesWorld_at_old w _ _ k hk⟩
    rw [Lib.bytesWorld_size]
    omega
  · intro j hj
    refine ⟨_, _, rfl, hc j hj, ?_⟩
    have hsz : bs.length ≤ (Lib.bytesCells w 5 ⟨bs.toArray⟩).size := by simp [Lib.bytesCells]
    simp [World.frozen?, Lib.bytesWorld_at_new]
    intro h
    omega
  · rw [Lib.bytesWorld_size]
    omega

/-- What is of the net behind a step is none of what was there and is not of the net. -/
theorem St1.not {w w' : World} {B : Nat} {F F' : Nat → Prop} {v : Value} {ps : List (Ms × Value)} {n s : Int} (k : St1 w w' B F F' v ps n s) {x : Nat} (hx : x < w.heap.size) (hF : ¬ F x) : ¬ F' x := fun q => by
  rcases k.new x q with q | q
  · exact hF q
  · omega

end Go.Proofs.Ytlgcecndfejngaa
