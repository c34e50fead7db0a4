/-
  A frame by its slots.
-/
import Derived.Orders
import Derived.Shelf.Abstract
import Derived.Test.YtlcablkhomnieaaK27
namespace Go.Proofs.Ytlcablkhomnieaa
open Go.RowKit

theorem act_eta (a : Act) (n : Nat) (h : a.tmps.size = n) : a = ⟨((List.range n).map fun t => a.eval (.tmp t)).toArray, a.defers⟩ := by
  obtain ⟨xs, ds⟩ := a
  congr 1
  refine Array.ext (by simp [← h]) fun i h1 h2 => ?_
  simp [Act.eval, h1]

end Go.Proofs.Ytlcablkhomnieaa
