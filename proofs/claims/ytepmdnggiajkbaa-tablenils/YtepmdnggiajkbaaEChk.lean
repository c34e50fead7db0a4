/-
  The reference's Check of layer 10.
-/
import Derived.Test.YtepmdnggiajkbaaK28
import Derived.Test.YtepmdnggiajkbaaK27
import Derived.Deep.CutRange
namespace Go.Proofs.Ytepmdnggiajkbaa
open Go.RowKit

theorem inB_false {b : Int} {l : List Int} {i : Nat} (h : i < l.length) (hx : ¬ (0 ≤ l.getD i 0 ∧ l.getD i 0 < b)) : inB b l = false := by
  unfold inB
  rw [List.all_eq_false]
  refine ⟨l[i], List.getElem_mem h, ?_⟩
  have e : l.getD i 0 = l[i] := by simp [List.getD_eq_getElem?_getD, List.getElem?_eq_getElem h]
  rw [e] at hx
  simpa using hx
theorem inB_true {b : Int} {l : List Int} (h : ∀ i, i < l.length → 0 ≤ l.getD i 0 ∧ l.getD i 0 < b) : inB b l = true := by
  unfold inB
  rw [List.all_eq_true]
  intro x hx
  obtain ⟨i, hi, rfl⟩ := List.getElem_of_mem hx
  have := h i hi
  have e : l.getD i 0 = l[i] := by simp [List.getD_eq_getElem?_getD, List.getElem?_eq_getElem hi]
  rw [e] at this
  simpa using this

end Go.Proofs.Ytepmdnggiajkbaa
