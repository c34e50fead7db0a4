/-
  What the functions without memory return: isCounter, num, cmp.Compare, Add and the reference's Add.
-/
import Derived.Test.YtaldjpjlggnhhaaAlpha
namespace Go.Proofs.Ytaldjpjlggnhhaa
open Go.RowKit

def cntB (a : Int) : Bool := decide (0 ≤ a ∧ a ≤ 1099511627776)
theorem cnt_yes {k : Int} (h1 : 0 ≤ k) (h2 : k ≤ 1099511627776) : cntB k = true := by unfold cntB; simp; omega
theorem cnt_no {k : Int} (h : k < 0 ∨ 1099511627776 < k) : cntB k = false := by unfold cntB; simp; omega

/-- Add, as the document has it: the sum and the error. -/
def addV (a b : Int) : Int × Int :=
  if a < 0 ∨ b < 0 ∨ 1099511627776 < a ∨ 1099511627776 < b then (0, 1) else if 1099511627776 < a + b then (0, 11) else (a + b, 0)

end Go.Proofs.Ytaldjpjlggnhhaa
