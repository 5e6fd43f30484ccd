/-
  NewReader and NewWriter: a new one, in memory of its own.
-/
import Derived.Test.YtbooeabmpdpgpaaXRd1
namespace Go.Proofs.Ytbooeabmpdpgpaa
open Go.RowKit

set_option maxRecDepth 100000 in
set_option maxHeartbeats 400000 in
theorem newReader_any {w : World} {bs : List UInt8} {cap : Nat} {ao : Option Addr} (hb : (bs.length : Int) ≤ 140737488355328) (hc : Has w ao bs) :
    Calls Try.prog 41 #[.slice ao bs.length cap] w fun e w' => ∃ B R, e = .returned (.pointer (some ⟨B, 0, none⟩)) ∧ Rs w' B R bs bs.length ⟨0, 0⟩ ∧ Kept (fun _ => True) w w' ∧ w.heap.size ≤ B ∧ w.heap.size ≤ R := by
  obtain ⟨i, hi, hz0, hz1, hz2⟩ := info_parts Try.infoU8
  have hb' : i.bytes * bs.length ≤ 281474976710656 := by rw [hz2]; omega
  have hb2 : bs.length ≤ maxLen := by unfold maxLen; omega
  have HC : Hid (Has w ao bs) := hc
  clear hc
  go_enter Try.func41, Try.ntmps41
  go_wp2_with (at_make; refine wpList_make_full _ rfl _ _ _ rfl w.heap.size 5 i (.int .u8 0) 1 Try.underlying25 hi hz0 hz1 _ _ _ _ bs.length rfl rfl rfl rfl hb' hb2 (Nat.le_refl _) ?_; intro w1 hown hg; obtain ⟨cur, hrow, hcs⟩ := made_row hown)
  have hk1 : Kept (fun _ => True) w w1 := (Kept.refl _ _).grown hg (fun k _ h => by cases h)
  have hlt : w.heap.size < w1.heap.size := lt_of_block hrow
  obtain ⟨w3, hrun, hrow3, hk3, hs3⟩ := copy_fill (w1.alloc (.cells #[.slice (some ⟨w.heap.size, 0, none⟩) bs.length bs.length, .int .i64 0, .int .i64 0] 137)) w.heap.size cur bs ao cap (by rw [Below.heap_alloc _ _ _ hlt]; exact hrow) hcs (HC.out.kept (hk1.alloc _) (fun _ _ => trivial))
  rw [hrun]
  go_wp2
  go_ret
  refine ⟨w1.heap.size, w.heap.size, rfl, ⟨⟨?_, (cells bs).toArray, hrow3, List.take_of_length_le (by simp [cells_length]), Nat.le_refl _⟩, Nat.zero_le _, hb⟩, ?_, by omega, Nat.le_refl _⟩
  · rw [hk3.block w1.heap.size (by simp) (by omega)]
    exact heap_alloc_new w1 _
  · exact (hk1.alloc _).then hk3 (fun i hi _ => by omega)

set_option maxRecDepth 100000 in
set_option maxHeartbeats 400000 in
theorem newWriter_any {w : World} :
    Calls Try.prog 51 #[] w fun e w' => e = .returned (.pointer (some ⟨w.heap.size, 0, none⟩)) ∧ Wr w' w.heap.size none (.slice none 0 0) [] ∧ Kept (fun _ => True) w w' ∧ w.heap.size < w'.heap.size := by
  go_enter Try.func51, Try.ntmps51
  go_wp2
  go_ret
  exact ⟨rfl, ⟨heap_alloc_new w _, World.ownsRow_nil _ _ _ _, rfl⟩, (Kept.refl _ _).alloc _, by simp⟩

end Go.Proofs.Ytbooeabmpdpgpaa
