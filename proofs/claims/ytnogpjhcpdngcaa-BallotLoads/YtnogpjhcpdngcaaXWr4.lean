/-
  A Writer's Byte and Eight.
-/
import Derived.Test.YtnogpjhcpdngcaaXWr3
namespace Go.Proofs.Ytnogpjhcpdngcaa
open Go.RowKit

set_option maxHeartbeats 400000 in
theorem weight_any {w : World} {B : Nat} {G : Option Nat} {v : Value} {bs : List UInt8} (n : Int) (h : Wr w B G v bs) (hb : (bs.length : Int) + 8 ≤ 140737488355328) :
    Calls Try.prog 44 #[.pointer (some ⟨B, 0, none⟩), .int .i64 n] w fun e w' => e = .returned (.tuple #[]) ∧ ∃ G' v', Wr w' B G' v' (bs ++ enc (u64 n) 8) ∧
      Kept (fun x => x ≠ B ∧ G ≠ some x) w w' ∧ (∀ x, G' = some x → G = some x ∨ w.heap.size ≤ x) := by
  have c := wnumber_any (u64 n) 8 h (by decide) (u64_nonneg n) (by omega)
  unfold u64 at c
  go_enter Try.func44, Try.ntmps44
  go_wp2_with (go_at_call 45; refine Calls.mono c ?_; rintro e w1 ⟨rfl, G', v', h1, h2, h3⟩)
  go_end0
  exact ⟨rfl, G', v', h1, h2, h3⟩

end Go.Proofs.Ytnogpjhcpdngcaa
