/-
  A Reader's Count, Text and Eight, for every Reader.
-/
import Derived.Test.YtjobddbcalafhaaXRd4
import Derived.Test.YtjobddbcalafhaaXCut
namespace Go.Proofs.Ytjobddbcalafhaa
open Go.RowKit

end Go.Proofs.Ytjobddbcalafhaa
