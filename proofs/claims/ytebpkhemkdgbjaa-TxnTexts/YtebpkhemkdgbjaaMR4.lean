/-
  The law's known.
-/
import Derived.Test.YtebpkhemkdgbjaaMR3
namespace Go.Proofs.Ytebpkhemkdgbjaa
open Go.RowKit

theorem pcs_const {f : Nat → Int} {g : Int} (h : ∀ i, i < 256 → f i = g) : pcs f 256 = [⟨0, 256, g⟩] := by
  have := pcs_jn f 0 g 256 (by omega) (fun i _ hi => h i hi)
  rw [← this, pcs, jn_nil _ (show (0 : Int) < 256 by decide)]
  rfl
theorem upd_all (f : Nat → Int) (g : Int) : ∀ i, i < 256 → upd f 0 256 g i = g := fun i hi => by
  unfold upd
  rw [if_pos ⟨by omega, by omega⟩]
theorem newP_told (n : Nat) (h1 : 1 ≤ n) (h3 : n ≤ 3) : newP n = pcs (ownH (newP n)) 256 := rgt_told (rgt_iff.1 (newP_rgt n h1 h3)).2.2

end Go.Proofs.Ytebpkhemkdgbjaa
