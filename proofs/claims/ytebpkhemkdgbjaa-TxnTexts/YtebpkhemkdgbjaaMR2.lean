/-
  The document's Parts.
-/
import Derived.Test.YtebpkhemkdgbjaaMR0
import Derived.Test.YtebpkhemkdgbjaaM3
namespace Go.Proofs.Ytebpkhemkdgbjaa
open Go.RowKit

theorem Rm.apart {e : TypeId} {w : World} {base b : Nat} {v : Value} {ps : List Pa} {ep : Int} {f : Nat → Int} (h : Rm w b ep f) (ho : Po e w base v ps) (he : 54 ≠ e) : v.ownBlock ≠ some b := ho.ne h.block he

end Go.Proofs.Ytebpkhemkdgbjaa
