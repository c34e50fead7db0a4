/-
  Small words that the laws' walks use.
-/
import Derived.Test.YtagoilabphmdfaaK6
namespace Go.Proofs.Ytagoilabphmdfaa
open Go.RowKit

theorem big_bounds {N : Int} {m : Mc} (h : bigB N m = false) : m.n ≤ N ∧ m.nx.length ≤ 70000 ∧ m.out.length ≤ 70000 := by
  unfold bigB at h
  have := of_decide_eq_false h
  omega
theorem self_eq (x : Int) : (x == x) = true := by simp
theorem self_ne (x : Int) : (x != x) = false := by simp

end Go.Proofs.Ytagoilabphmdfaa
