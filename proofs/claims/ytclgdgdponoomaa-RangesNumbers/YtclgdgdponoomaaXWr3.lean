/-
  A Writer's Done: a copy of what is written, in new memory.
-/
import Derived.Test.YtclgdgdponoomaaXWr2
namespace Go.Proofs.Ytclgdgdponoomaa
open Go.RowKit

set_option maxRecDepth 100000 in
set_option maxHeartbeats 400000 in
theorem done_any {w : World} {B : Nat} {G : Option Nat} {v : Value} {bs : List UInt8} (h : Wr w B G v bs) (hb : (bs.length : Int) ≤ 140737488355328) :
    Calls Try.prog 38 #[.pointer (some ⟨B, 0, none⟩)] w fun e w' => ∃ D, e = .returned (.slice (some ⟨D, 0, none⟩) bs.length bs.length) ∧ w'.heap[D]? = some (.cells (cells bs).toArray 5 (0, 0)) ∧ Kept (fun _ => True) w w' ∧ w.heap.size ≤ D := by
  obtain ⟨i, hi, hz0, hz1, hz2⟩ := info_parts Try.infoU8
  have hb' : i.bytes * bs.length ≤ 281474976710656 := by rw [hz2]; omega
  have hb2 : bs.length ≤ maxLen := by unfold maxLen; omega
  obtain ⟨ao, cap, rfl⟩ := own_shape h.own
  have hc0 := cell_of_one h.self
  have hlt := h.lt
  have HH : Hid (Has w ao bs) := own_has h.own
  go_enter Try.func38, Try.ntmps38
  go_wp2_with (at_make; refine wpList_make_full _ rfl _ _ _ rfl w.heap.size 5 i (.int .u8 0) 1 Try.underlying34 hi hz0 hz1 _ _ _ _ bs.length rfl rfl rfl rfl hb' hb2 (Nat.le_refl _) ?_; intro w1 hown hg; obtain ⟨cur, hrow, hcs⟩ := made_row hown; have hc1 : w1.cell? ⟨B, 0, none⟩ = some (.slice ao bs.length cap) := (hg.cell_far _ hlt (by simp)).trans hc0)
  have hk1 : Kept (fun _ => True) w w1 := (Kept.refl _ _).grown hg (fun k _ h => by cases h)
  obtain ⟨w3, hrun, hrow3, hk3, hs3⟩ := copy_fill w1 w.heap.size cur bs ao cap hrow hcs (HH.out.kept hk1 (fun _ _ => trivial))
  rw [hrun]
  go_wp2
  go_ret
  exact ⟨w.heap.size, rfl, hrow3, hk1.then hk3 (fun i hi _ => by omega), Nat.le_refl _⟩

end Go.Proofs.Ytclgdgdponoomaa
