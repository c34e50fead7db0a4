/-
  The given statement of CacheOwn: for every input the call returns true, and each argument reads afterwards as it read before. No conditions.
-/
import Derived.Test.YtemalidanjfmkaaKOwn
import Derived.Test.YtemalidanjfmkaaK5
namespace Go.Proofs.Ytemalidanjfmkaa
open Go.ChangeShapes Go.WideShapes Go.ChangeAt Go.RowKit
open Go.ChangeMaps (open_string shut_string)
set_option linter.unusedVariables false

end Go.Proofs.Ytemalidanjfmkaa
