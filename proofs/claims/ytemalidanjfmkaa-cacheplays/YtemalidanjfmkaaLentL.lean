/-
  What Lent makes of a list, and that Kept says yes while nothing has turned; with lists.
-/
import Derived.Test.YtemalidanjfmkaaK1
namespace Go.Proofs.Ytemalidanjfmkaa
open Go.RowKit

/-- A lent list: l at the head of block g, the two marks behind it. -/
structure LentL (w : World) (g cap : Nat) (l : List Int) : Prop where
  room : l.length + 2 ≤ cap
  le : cap ≤ maxLen
  rd : RdL .i64 w (some ⟨g, 0, none⟩) l
  m1 : w.cell? ⟨g, l.length, none⟩ = some (.int .i64 (-771))
  m2 : w.cell? ⟨g, l.length + 1, none⟩ = some (.int .i64 (-772))

theorem LentL.lt {w : World} {g cap : Nat} {l : List Int} (h : LentL w g cap l) : g < w.heap.size := World.block_lt_of_cell? w _ h.m1
theorem LentL.below {w w' : World} {g cap : Nat} {l : List Int} (h : LentL w g cap l) (hb : Below w.heap.size w w') : LentL w' g cap l :=
  ⟨h.room, h.le, h.rd.below hb, by rw [hb.cell (by exact h.lt)]; exact h.m1, by rw [hb.cell (by exact h.lt)]; exact h.m2⟩

theorem lent_own {w : World} {B : Nat} {v : Value} {l : List Int} (h : OwnL .i64 3 w B v (l ++ [-771, -772])) :
    ∃ g cap, v = .slice (some ⟨g, 0, none⟩) (l.length + 2) cap ∧ l.length + 2 ≤ cap ∧ cap ≤ maxLen ∧ LentL w g cap l := by
  obtain ⟨g, cap, e, hle, hmx, hBg, hgs, hc, hfr⟩ := h.pos (by simp)
  have hlen : (l ++ [-771, -772]).length = l.length + 2 := by simp
  rw [hlen] at e hle hc
  refine ⟨g, cap, e, hle, hmx, hle, hmx, ?_, ?_, ?_⟩
  · by_cases h0 : l.length = 0
    · exact .inl h0
    · exact .inr ⟨g, 0, rfl, fun i hi => by rw [Nat.zero_add, hc i (by omega), getD_app_left hi]⟩
  · have := hc l.length (by omega)
    have e1 : (l ++ [-771, -772]).getD l.length 0 = ([-771, -772] : List Int).getD 0 0 := getD_app_right (i := 0)
    rw [e1] at this
    exact this
  · have := hc (l.length + 1) (by omega)
    rw [getD_app_right] at this
    exact this

theorem lent_list (a : Option Addr) (c : Nat) (l : List Int) (w : World) (hr : RdL .i64 w a l) (hnil : a = none → l.length = 0 ∧ c = 0) (hn : l.length * 8 ≤ 140737488351232) :
    Calls Try.prog 14 #[.slice a l.length c] w fun e w' => ∃ g cap, e = .returned (.slice (some ⟨g, 0, none⟩) l.length cap) ∧ LentL w' g cap l ∧ Below w.heap.size w w' := by
  have h0 : OwnL .i64 3 (w.alloc (.cells #[] 3)) w.heap.size (.slice (some ⟨w.heap.size, 0, none⟩) 0 0) [] := OwnL.lit w _ [] #[] (Nat.le_refl _) (by unfold maxLen; simp) rfl
  have hr0 : RdL .i64 (w.alloc (.cells #[] 3)) a l := hr.below ((Below.refl _ _).alloc (Nat.le_refl _) _)
  go_enter Try.func14, Try.ntmps14
  go_wp2_with (first | (at_builtin; refine wpl_pushL eInt rfl (.tmp 4) (.tmp 5) rfl w.heap.size _ [] rfl h0 a c l rfl hr0 hnil (by simp only [List.length_nil]; omega) (by simp) ?_; rw [List.nil_append]; intro v1 w1 hown1 hb1 _) | (at_builtin; refine wpl_pushL eInt rfl (.tmp 6) (.tmp 7) rfl w.heap.size v1 l rfl (hown1.alloc _) (some ⟨w1.heap.size, 0, none⟩) 2 [-771, -772] rfl (RdL.lit w1 [-771, -772] _ (by unfold maxLen; simp) rfl) (by intro h; cases h) (by simp only [List.length_cons, List.length_nil]; omega) (by have := hb1.size; simp at this ⊢; omega) ?_; intro v2 w2 hown2 hb2 _; obtain ⟨g, c2, rfl, hle2, hmx2, hL⟩ := lent_own hown2))
  go_ret
  refine ⟨g, c2, rfl, hL, ?_⟩
  · exact ((((Below.refl _ _).alloc (Nat.le_refl _) _).trans hb1).alloc (by have := hb1.size; simp at this; omega) _).trans hb2

theorem kept_list (g cap c' : Nat) (l : List Int) (a' : Option Addr) (w : World) (L : LentL w g cap l) (hr' : RdL .i64 w a' l) :
    Calls Try.prog 24 #[.slice (some ⟨g, 0, none⟩) l.length cap, .slice a' l.length c'] w fun e w' => e = .returned (.bool true) ∧ Below w.heap.size w w' := by
  have hroom := L.room
  have hle := L.le
  unfold maxLen at hle
  go_enter Try.func24, Try.ntmps24
  go_wp2_with fail
  refine (same_list _ a' cap c' l l w L.rd hr' (by unfold maxLen; omega)).mono ?_
  rw [show decide (l = l) = true from decide_eq_true rfl]
  rintro e w1 ⟨rfl, hb⟩
  have L1 := L.below hb
  have m1 := L1.m1
  have m2 := L1.m2
  go_wp2
  go_ret
  exact ⟨rfl, hb⟩

end Go.Proofs.Ytemalidanjfmkaa
