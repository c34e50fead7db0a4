/-
  The names of a text, each in its place, are the text; the usual names are told as they are: in plain words.
-/
import Derived.Test.YtlgkoeolojkhgaaBack
import Derived.Test.YtlgkoeolojkhgaaGDefault
import Derived.Laws.Cover4
namespace Go.Proofs.Ytlgkoeolojkhgaa
open Go.RowKit

set_option maxRecDepth 1000000 in
theorem usual_told : ∀ n, n < 65 → 1 ≤ n → (prsV (runesBytes (usualL.take n))).1 = usualL.take n ∧ (prsV (runesBytes (usualL.take n))).2.1 = 0 := by decide +kernel

/-- The numbers from j on, m of them. -/
def idx (j m : Nat) : List Int := (List.range' j m).map fun (i : Nat) => (i : Int)
theorem idx_len (j m : Nat) : (idx j m).length = m := by simp [idx]
theorem idx_snoc (m : Nat) : idx 0 (m + 1) = idx 0 m ++ [(m : Int)] := by
  unfold idx
  rw [List.range'_concat, List.map_append]
  simp
theorem shw_idx {names : List Int} (hg : GoodN names) : ∀ (m j : Nat) (bs : List UInt8), j + m = names.length → shw names (idx j m) bs = (bs ++ encs (names.drop j), 0)
  | 0, j, bs, h => by
    rw [List.drop_eq_nil_of_le (by omega)]
    simp [idx, shw, encs]
  | m + 1, j, bs, h => by
    have hj : j < names.length := by omega
    have e : idx j (m + 1) = (j : Int) :: idx (j + 1) m := by simp [idx, List.range'_succ]
    rw [e, shw_go hj (hg j hj).2, shw_idx hg m (j + 1) _ (by omega), drop_at hj]
    simp [encs]
theorem shwV_idx {names : List Int} (hg : GoodN names) : shwV names (idx 0 names.length) = (encs names, 0) := by
  unfold shwV
  rw [shw_idx hg names.length 0 [] (by omega)]; simp

end Go.Proofs.Ytlgkoeolojkhgaa
