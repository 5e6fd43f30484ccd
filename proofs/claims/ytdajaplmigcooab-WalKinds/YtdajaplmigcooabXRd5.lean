/-
  A Reader's Count, Text and Eight, for every Reader.
-/
import Derived.Test.YtdajaplmigcooabXRd4
import Derived.Test.YtdajaplmigcooabXCut
namespace Go.Proofs.Ytdajaplmigcooab
open Go.RowKit

end Go.Proofs.Ytdajaplmigcooab
