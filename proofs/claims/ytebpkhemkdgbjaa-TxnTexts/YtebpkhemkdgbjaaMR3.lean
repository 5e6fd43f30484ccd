/-
  The law's same, of a Map that has the document's parts; known.
-/
import Derived.Test.YtebpkhemkdgbjaaMR1
import Derived.Test.YtebpkhemkdgbjaaMR2
import Derived.Test.YtebpkhemkdgbjaaM6
namespace Go.Proofs.Ytebpkhemkdgbjaa
open Go.RowKit

end Go.Proofs.Ytebpkhemkdgbjaa
