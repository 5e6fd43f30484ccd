/-
  []byte(s) of a text.
-/
import Derived.Test.YtbooeabmpdpgpaaSB
import Derived.Lib.ConvBytes
namespace Go.Proofs.Ytbooeabmpdpgpaa
open Go.RowKit

theorem conv_strU (w : World) (bs : List UInt8) : ∃ cap w1, (convert 9 25 (.string ⟨bs.toArray⟩)).run Try.prog w = .ok (.slice (some ⟨w.heap.size, 0, none⟩) bs.length cap) w1 ∧ Has w1 (some ⟨w.heap.size, 0, none⟩) bs ∧ Kept (fun _ => True) w w1 := by
  have hc : ∀ j (hj : j < bs.length), (Lib.bytesWorld w 5 ⟨bs.toArray⟩).cell? ⟨w.heap.size, j, none⟩ = some (.int .u8 (bs[j]).toNat) := fun j hj => by
    rw [Lib.bytesWorld_cell w 5 ⟨bs.toArray⟩ j hj]
    simp [List.getD, List.getElem?_eq_getElem hj]
  refine ⟨_, _, Lib.run_convert_string_bytes (P := Try.prog) w 9 25 5 ⟨bs.toArray⟩ Try.underlying9 Try.underlying25 Try.underlying5, ?_, ?_⟩
  · intro _
    refine ⟨_, rfl, fun j hj => ?_⟩
    rw [WideShapes.add_plain, Nat.zero_add]
    exact hc j hj
  · refine ⟨rfl, rfl, rfl, ?_, fun k hk _ => Lib.bytesWorld_at_old w _ _ k hk⟩
    rw [Lib.bytesWorld_size]
    omega

end Go.Proofs.Ytbooeabmpdpgpaa
