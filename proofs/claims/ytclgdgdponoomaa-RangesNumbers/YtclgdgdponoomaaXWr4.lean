/-
  A Writer's Byte and Eight.
-/
import Derived.Test.YtclgdgdponoomaaXWr3
namespace Go.Proofs.Ytclgdgdponoomaa
open Go.RowKit

set_option maxRecDepth 100000 in
set_option maxHeartbeats 400000 in
theorem weight_any {w : World} {B : Nat} {G : Option Nat} {v : Value} {bs : List UInt8} (n : Int) (h : Wr w B G v bs) (hb : (bs.length : Int) + 8 ≤ 140737488355328) :
    Calls Try.prog 36 #[.pointer (some ⟨B, 0, none⟩), .int .i64 n] w fun e w' => e = .returned (.tuple #[]) ∧ ∃ G' v', Wr w' B G' v' (bs ++ enc (u64 n) 8) ∧
      Kept (fun x => x ≠ B ∧ G ≠ some x) w w' ∧ (∀ x, G' = some x → G = some x ∨ w.heap.size ≤ x) := by
  have c := wnumber_any (u64 n) 8 h (by decide) (u64_nonneg n) (by omega)
  unfold u64 at c
  go_enter Try.func36, Try.ntmps36
  go_wp2_with (go_at_call 48; refine Calls.mono c ?_; rintro e w1 ⟨rfl, G', v', h1, h2, h3⟩)
  go_end0
  exact ⟨rfl, G', v', h1, h2, h3⟩

end Go.Proofs.Ytclgdgdponoomaa
