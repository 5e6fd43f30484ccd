/-
  A byte's bounds.
-/
import Derived.Test.YtdajaplmigcooabSArgs
namespace Go.Proofs.Ytdajaplmigcooab
open Go.RowKit

theorem u8_bounds {n : Int} (h : (Lit.int .u8 n).wf = true) : 0 ≤ n ∧ n < 256 := by
  simp [Lit.wf, IntKind.min, IntKind.max, IntKind.bits, IntKind.signed] at h
  omega

end Go.Proofs.Ytdajaplmigcooab
