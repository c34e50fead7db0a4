/-
  What the package-level variables hold that the calls read: the powers of ten, the handle of the type error; the program's Put.
-/
import Derived.Test.YtbhdcgebcmgidaaDoorTLay
import Derived.Test.YtbhdcgebcmgidaaDoorTByt
namespace Go.Proofs.YtbhdcgebcmgidaaDoor
open Go.RowKit Go.Shelf

def Fit (x : Int) : Prop := -9223372036854775808 ≤ x ∧ x ≤ 9223372036854775807

end Go.Proofs.YtbhdcgebcmgidaaDoor
