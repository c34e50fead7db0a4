/-
  Canon's answer, in plain words.
-/
import Derived.Test.YtepmdnggiajkbaaK7
namespace Go.Proofs.Ytepmdnggiajkbaa

/-- Canon, as the document has it: the machine and the error. -/
def cnV (m : Mc) : Mc × Int := if (mchV m).2 ≠ 0 then (mc0, (mchV m).2) else (canM m, 0)
theorem cnV_err {m : Mc} (h : (mchV m).2 ≠ 0) : cnV m = (mc0, (mchV m).2) := by unfold cnV; rw [if_pos h]
theorem cnV_ok {m : Mc} (h : (mchV m).2 = 0) : cnV m = (canM m, 0) := by unfold cnV; rw [if_neg (by simp [h])]

end Go.Proofs.Ytepmdnggiajkbaa
