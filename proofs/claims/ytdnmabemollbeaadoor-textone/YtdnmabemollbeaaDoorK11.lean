/-
  Some texts of this seat, one behind the other.
-/
import Derived.Test.YtdnmabemollbeaaDoorK1
import Derived.Test.YtdnmabemollbeaaDoorK10
import Derived.Test.YtdnmabemollbeaaDoorK15
import Derived.Test.YtdnmabemollbeaaDoorK9
/-
  What the program's split and splitWholly return.
-/
namespace Go.Proofs.YtdnmabemollbeaaDoor
open Go.RowKit Go.Maps

/-- What split leaves: the classes after r rounds, r of them made. -/
def SpPost (m : Mc) (most : Int) (w : World) (e : Ending) (w' : World) : Prop :=
  ∃ v r, e = .returned (.tuple #[v, .int .i64 (r : Nat)]) ∧ OwnL .i64 3 w' w.heap.size v (aftL m r) ∧ (r : Int) ≤ most ∧ ((r : Int) = most ∨ Still m r) ∧ (∀ j, j < r → ¬ Still m j) ∧ Below w.heap.size w w'

end Go.Proofs.YtdnmabemollbeaaDoor

/-
  What the program's After and Classes return, for every table.
-/
namespace Go.Proofs.YtdnmabemollbeaaDoor
open Go.RowKit Go.Maps

end Go.Proofs.YtdnmabemollbeaaDoor
