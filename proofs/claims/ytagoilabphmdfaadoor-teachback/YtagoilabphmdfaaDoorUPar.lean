/-
  Answers as texts: how many there are, what numbers they hold. Plain words.
-/
import Derived.Test.YtagoilabphmdfaaDoorEParse
import Derived.Test.YtagoilabphmdfaaDoorUTch
namespace Go.Proofs.YtagoilabphmdfaaDoor

theorem prsA_len (b : List UInt8) : ∀ (f : Nat) (l : List An) (x : Nat), l.length ≤ 65536 → (prsA b f l x).1.length ≤ 65536
  | 0, l, x, h => h
  | f + 1, l, x, h => by
    unfold prsA
    by_cases h1 : x < b.length
    · rw [if_pos h1]
      by_cases h2 : l.length = 65536
      · rw [if_pos h2]; exact Nat.zero_le _
      · rw [if_neg h2]
        by_cases h3 : (lineV b x).2.2 ≠ 0
        · rw [if_pos h3]; exact Nat.zero_le _
        · rw [if_neg h3]
          exact prsA_len b f _ _ (by simp; omega)
    · rw [if_neg h1]; exact h
theorem parV_len (b : List UInt8) : (parV b).1.length ≤ 65536 := by
  unfold parV
  split
  · exact Nat.zero_le _
  · exact prsA_len b _ _ _ (by simp)

end Go.Proofs.YtagoilabphmdfaaDoor
