/-
  Places as numbers.
-/
import Derived.Test.YtlcablkhomnieaaK1
namespace Go.Proofs.Ytlcablkhomnieaa

/-- Places as numbers. -/
def ni (P : List Nat) : List Int := P.map fun (x : Nat) => (x : Int)
theorem ni_len (P : List Nat) : (ni P).length = P.length := by simp [ni]
theorem ni_at (P : List Nat) (j : Nat) : (ni P).getD j 0 = ((P.getD j 0 : Nat) : Int) := by
  unfold ni
  rw [List.getD_eq_getElem?_getD, List.getElem?_map, List.getD_eq_getElem?_getD]
  cases P[j]? <;> rfl
theorem ni_snoc (P : List Nat) (y : Nat) : ni (P ++ [y]) = ni P ++ [(y : Int)] := by simp [ni]

end Go.Proofs.Ytlcablkhomnieaa
