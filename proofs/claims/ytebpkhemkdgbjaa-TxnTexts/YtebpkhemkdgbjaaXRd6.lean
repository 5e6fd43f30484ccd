/-
  A Reader's Eight.
-/
import Derived.Test.YtebpkhemkdgbjaaXRd1
namespace Go.Proofs.Ytebpkhemkdgbjaa
open Go.RowKit

/-- n as a number of 64 bits with a sign. -/
def i64 (n : Int) : Int := wrap64 n

set_option maxRecDepth 100000 in
set_option maxHeartbeats 400000 in
theorem eight_any {w : World} {B R : Nat} {bs : List UInt8} {cap : Nat} {s : RS} (h : Rs w B R bs cap s) :
    Calls Try.prog 49 #[.pointer (some ⟨B, 0, none⟩)] w fun e w' => e = .returned (.int .i64 (i64 ((s.num bs 8).1 : Nat))) ∧ Rs w' B R bs cap (s.num bs 8).2 ∧ Kept (· ≠ B) w w' := by
  have c := number_any 8 h (by decide) (by decide)
  generalize s.num bs 8 = r at *
  go_enter Try.func49, Try.ntmps49
  go_wp2_with (go_at_call 64; refine Calls.mono c ?_; rintro e w' ⟨rfl, h1, h2⟩)
  go_ret
  exact ⟨rfl, h1, h2⟩

end Go.Proofs.Ytebpkhemkdgbjaa
