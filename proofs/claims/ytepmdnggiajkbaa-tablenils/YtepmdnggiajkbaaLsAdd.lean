/-
  Slices of lists of the call's own: one more.
-/
import Derived.Test.YtepmdnggiajkbaaK7
import Derived.Test.YtepmdnggiajkbaaK1
import Derived.Test.YtepmdnggiajkbaaLentL
namespace Go.Proofs.Ytepmdnggiajkbaa
open Go.RowKit

theorem gdl_left {V : List (List Int)} {l : List Int} {i : Nat} (h : i < V.length) : (V ++ [l]).getD i [] = V.getD i [] := by
  rw [List.getD_eq_getElem?_getD, List.getD_eq_getElem?_getD, List.getElem?_append_left h]
theorem gdl_new {V : List (List Int)} {l : List Int} : (V ++ [l]).getD V.length [] = l := by simp
/-- A list behind the lists. -/
theorem LLs.add {w wr w2 w4 : World} {v v' u : Value} {vs : Nat → Value} {V : List (List Int)} {l : List Int} (h : LLs wr w.heap.size v vs V) (hbl : Below w.heap.size w wr) (hu : OwnL .i64 3 w2 wr.heap.size u l) (hb : Below wr.heap.size wr w2) (o : Obj)
    (ho : OwnV w4 w.heap.size v' (V.length + 1) (joinV V.length vs fun _ => u)) (hg : (w2.alloc o).grownBy w4 v.ownBlock) (hv : ∀ b, v'.ownBlock = some b → v.ownBlock = some b ∨ (w2.alloc o).heap.size ≤ b) : LLs w4 w.heap.size v' (joinV V.length vs fun _ => u) (V ++ [l]) ∧ Below w.heap.size w w4 := by
  have I : RPInv w V.length (nsV (V ++ [l])) (fsV (V ++ [l])) wr v vs := ⟨h.out, ⟨fun i hi => by
    have := h.fam.own i hi
    unfold nsV fsV at this ⊢
    rw [gdl_left hi]; exact this, h.fam.apart⟩, h.ap, hbl⟩
  have hu2 : Own w2 wr.heap.size u (nsV (V ++ [l]) V.length) (fsV (V ++ [l]) V.length) := by
    have := own_of_list hu
    unfold nsV fsV
    rw [gdl_new]; exact this
  have J := I.step hu2 hb o ho hg hv
  have e : (V ++ [l]).length = V.length + 1 := by simp
  exact ⟨⟨by rw [e]; exact J.out, by rw [e]; exact J.fam, by rw [e]; exact J.apart⟩, J.below⟩

end Go.Proofs.Ytepmdnggiajkbaa
