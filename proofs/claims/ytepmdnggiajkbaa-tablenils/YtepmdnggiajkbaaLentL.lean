/-
  What Lent makes of a list, and that Kept says yes while nothing has turned; with lists.
-/
import Derived.Test.YtepmdnggiajkbaaK1
namespace Go.Proofs.Ytepmdnggiajkbaa
open Go.RowKit

/-- A lent list: l at the head of block g, the two marks behind it. -/
structure LentL (w : World) (g cap : Nat) (l : List Int) : Prop where
  room : l.length + 2 ≤ cap
  le : cap ≤ maxLen
  rd : RdL .i64 w (some ⟨g, 0, none⟩) l
  m1 : w.cell? ⟨g, l.length, none⟩ = some (.int .i64 (-771))
  m2 : w.cell? ⟨g, l.length + 1, none⟩ = some (.int .i64 (-772))

theorem LentL.lt {w : World} {g cap : Nat} {l : List Int} (h : LentL w g cap l) : g < w.heap.size := World.block_lt_of_cell? w _ h.m1
theorem LentL.below {w w' : World} {g cap : Nat} {l : List Int} (h : LentL w g cap l) (hb : Below w.heap.size w w') : LentL w' g cap l :=
  ⟨h.room, h.le, h.rd.below hb, by rw [hb.cell (by exact h.lt)]; exact h.m1, by rw [hb.cell (by exact h.lt)]; exact h.m2⟩

theorem lent_own {w : World} {B : Nat} {v : Value} {l : List Int} (h : OwnL .i64 3 w B v (l ++ [-771, -772])) :
    ∃ g cap, v = .slice (some ⟨g, 0, none⟩) (l.length + 2) cap ∧ l.length + 2 ≤ cap ∧ cap ≤ maxLen ∧ LentL w g cap l := by
  obtain ⟨g, cap, e, hle, hmx, hBg, hgs, hc, hfr⟩ := h.pos (by simp)
  have hlen : (l ++ [-771, -772]).length = l.length + 2 := by simp
  rw [hlen] at e hle hc
  refine ⟨g, cap, e, hle, hmx, hle, hmx, ?_, ?_, ?_⟩
  · by_cases h0 : l.length = 0
    · exact .inl h0
    · exact .inr ⟨g, 0, rfl, fun i hi => by rw [Nat.zero_add, hc i (by omega), getD_app_left hi]⟩
  · have := hc l.length (by omega)
    have e1 : (l ++ [-771, -772]).getD l.length 0 = ([-771, -772] : List Int).getD 0 0 := getD_app_right (i := 0)
    rw [e1] at this
    exact this
  · have := hc (l.length + 1) (by omega)
    rw [getD_app_right] at this
    exact this

end Go.Proofs.Ytepmdnggiajkbaa
