/-
  Which k are alphabets: isAlphabet.
-/
import Derived.Test.YtaldjpjlggnhhaaK1
namespace Go.Proofs.Ytaldjpjlggnhhaa
open Go.RowKit

def alpB (k : Int) : Bool := decide (1 ≤ k ∧ k ≤ 64)
theorem alp_yes {k : Int} (h1 : 1 ≤ k) (h2 : k ≤ 64) : alpB k = true := by unfold alpB; simp; omega
theorem alp_no {k : Int} (h : k < 1 ∨ 64 < k) : alpB k = false := by unfold alpB; simp; omega
theorem alp_iff {k : Int} : alpB k = true ↔ 1 ≤ k ∧ k ≤ 64 := by unfold alpB; simp

end Go.Proofs.Ytaldjpjlggnhhaa
