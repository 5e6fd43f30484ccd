/-
  How many words a text has.
-/
import Derived.Test.YtnddpalngjmhnaaDoorQPlain
namespace Go.Proofs.YtnddpalngjmhnaaDoor
open Go.RowKit

theorem wdp_few (s : List UInt8) (p : Nat) : (wdp p s).1.length + (wdp p s).2.length ≤ s.length := by
  induction s generalizing p with
  | nil => simp [wdp]
  | cons c r ih =>
    have := ih (p + 1)
    unfold wdp
    split
    · simp only [flush]
      split
      · simp; omega
      · rename_i h
        have : 0 < (wdp (p + 1) r).1.length := List.length_pos_iff.2 h
        simp; omega
    · simp; omega
/-- No more words than bytes. -/
theorem words_few (s : List UInt8) : (Wo s 0).length ≤ s.length := by
  have := wdp_few s 0
  unfold Wo
  rw [List.drop_zero]
  simp only [flush]
  split
  · omega
  · rename_i h
    have : 0 < (wdp 0 s).1.length := List.length_pos_iff.2 h
    simp; omega

end Go.Proofs.YtnddpalngjmhnaaDoor
