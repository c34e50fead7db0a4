/-
  What Check returns (and, next door, the reference's), for every list and every k.
-/
import Derived.Test.YtaldjpjlggnhhaaAlpha
import Derived.Test.YtaldjpjlggnhhaaK1
namespace Go.Proofs.Ytaldjpjlggnhhaa
open Go.RowKit

end Go.Proofs.Ytaldjpjlggnhhaa
