/-
  What the reference's Ahead returns, for any two lists.
-/
import Derived.Test.YtepmdnggiajkbaaK1
namespace Go.Proofs.Ytepmdnggiajkbaa
open Go.RowKit

end Go.Proofs.Ytepmdnggiajkbaa
