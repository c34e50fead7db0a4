/-
  What the reference's Ahead returns, for any two lists.
-/
import Derived.Test.YtaldjpjlggnhhaaK1
namespace Go.Proofs.Ytaldjpjlggnhhaa
open Go.RowKit

end Go.Proofs.Ytaldjpjlggnhhaa
