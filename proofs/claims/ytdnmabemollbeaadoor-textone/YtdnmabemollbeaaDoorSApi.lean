/-
  What the reference's After returns, for every table: what the program's does.
-/
import Derived.Test.YtdnmabemollbeaaDoorSApiC
import Derived.Test.YtdnmabemollbeaaDoorK11
namespace Go.Proofs.YtdnmabemollbeaaDoor
open Go.RowKit Go.Maps

end Go.Proofs.YtdnmabemollbeaaDoor
