/-
  A Reader's Count, Text and Eight, for every Reader.
-/
import Derived.Test.YtdajaplmigcooaaXRd4
import Derived.Test.YtdajaplmigcooaaXCut
namespace Go.Proofs.Ytdajaplmigcooaa
open Go.RowKit

end Go.Proofs.Ytdajaplmigcooaa
