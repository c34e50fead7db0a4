/-
  What the reference's After returns, for every table: what the program's does.
-/
import Derived.Test.YtknefgdcnacfoaaSApiC
import Derived.Test.YtknefgdcnacfoaaK11
namespace Go.Proofs.Ytknefgdcnacfoaa
open Go.RowKit Go.Maps

end Go.Proofs.Ytknefgdcnacfoaa
