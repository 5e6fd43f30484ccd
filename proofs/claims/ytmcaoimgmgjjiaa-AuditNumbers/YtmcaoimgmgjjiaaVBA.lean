/-
  Texts of the proofs, 53 of 53.
-/
import Derived.Test.YtmcaoimgmgjjiaaVB
import Derived.SizedLaws
import Derived.ProofKit
import Derived.OpenShut
import Derived.ChangeMaps5
import Derived.Below
namespace Go.Proofs.Ytmcaoimgmgjjiaa
open Go.ChangeShapes Go.WideShapes Go.ChangeAt Go.RowKit

theorem own : ownKnob Try.prog.godebug = none := by kernel_rfl
end Go.Proofs.Ytmcaoimgmgjjiaa
