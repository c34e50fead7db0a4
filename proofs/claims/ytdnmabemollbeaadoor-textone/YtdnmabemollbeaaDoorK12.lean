/-
  Some texts of this seat, one behind the other.
-/
import Derived.Test.YtdnmabemollbeaaDoorK1
import Derived.Test.YtdnmabemollbeaaDoorK11
import Derived.Test.YtdnmabemollbeaaDoorK5
import Derived.Test.YtdnmabemollbeaaDoorK8
import Derived.Test.YtdnmabemollbeaaDoorLwB
import Derived.Test.YtdnmabemollbeaaDoorVMerge
/-
  What the program's Minimise returns, for every table.
-/
namespace Go.Proofs.YtdnmabemollbeaaDoor
open Go.RowKit Go.Maps

/-- Minimise, as the document has it: the machine and the error. -/
def mnV (m : Mc) : Mc × Int := if (mchV m).2 ≠ 0 then (mc0, (mchV m).2) else (minM m, 0)
theorem mnV_err {m : Mc} (h : (mchV m).2 ≠ 0) : mnV m = (mc0, (mchV m).2) := by unfold mnV; rw [if_pos h]
theorem mnV_ok {m : Mc} (h : (mchV m).2 = 0) : mnV m = (minM m, 0) := by unfold mnV; rw [if_neg (by simp [h])]
theorem cnV_quo {m : Mc} (F : Full m) : cnV (quoM m) = (minM m, 0) := cnV_ok (mch_full (full_quo F))

end Go.Proofs.YtdnmabemollbeaaDoor

/-
  The page's example of layer 5: live returns true in every world, and turns nothing that was there. Small words that the laws' walks share.
-/
namespace Go.Proofs.YtdnmabemollbeaaDoor
open Go.RowKit Go.Maps

theorem mc_ext {a b : Mc} (h1 : a.kind = b.kind) (h2 : a.k = b.k) (h3 : a.o = b.o) (h4 : a.n = b.n) (h5 : a.nx = b.nx) (h6 : a.out = b.out) : a = b := by
  cases a; cases b; simp_all
def mLV : Mc := ⟨1, 1, 2, 4, [1, 2, 3, 0], [0, 1, 0, 1]⟩
def cL : Mc := ⟨1, 1, 2, 2, [1, 0], [0, 1]⟩
theorem csL : csV mLV = ([0, 1, 0, 1], 0, 0) := by decide +kernel
theorem mnL : mnV mLV = (cL, 0) := by
  have h : (mchV mLV).2 = 0 := by decide
  rw [mnV_ok h]
  have h1 : minM mLV = cL := mc_ext rfl rfl rfl (by decide +kernel) (by decide +kernel) (by decide +kernel)
  rw [h1]

end Go.Proofs.YtdnmabemollbeaaDoor
