/-
  What Lent makes of a list lies in new memory; Kept says yes while nothing of it has turned.
-/
import Derived.Test.YtemalidanjfmkaaLentL
import Derived.Test.YtemalidanjfmkaaK19
namespace Go.Proofs.Ytemalidanjfmkaa
open Go.RowKit

theorem lent_own2 {w : World} {B : Nat} {v : Value} {l : List Int} (h : OwnL .i64 3 w B v (l ++ [-771, -772])) :
    ∃ g cap, v = .slice (some ⟨g, 0, none⟩) (l.length + 2) cap ∧ l.length + 2 ≤ cap ∧ cap ≤ maxLen ∧ LentL w g cap l ∧ B ≤ g := by
  obtain ⟨g, cap, e, h1, h2, L⟩ := lent_own h
  exact ⟨g, cap, e, h1, h2, L, (h.lt (b := g) (by rw [e]; rfl)).1⟩
theorem lent_new (a : Option Addr) (c : Nat) (l : List Int) (w : World) (hr : RdL .i64 w a l) (hnil : a = none → l.length = 0 ∧ c = 0) (hn : l.length * 8 ≤ 140737488351232) :
    Calls Try.prog 14 #[.slice a l.length c] w fun e w' => ∃ g cap, e = .returned (.slice (some ⟨g, 0, none⟩) l.length cap) ∧ LentL w' g cap l ∧ w.heap.size ≤ g ∧ Below w.heap.size w w' := by
  have h0 : OwnL .i64 3 (w.alloc (.cells #[] 3)) w.heap.size (.slice (some ⟨w.heap.size, 0, none⟩) 0 0) [] := OwnL.lit w _ [] #[] (Nat.le_refl _) (by unfold maxLen; simp) rfl
  have hr0 : RdL .i64 (w.alloc (.cells #[] 3)) a l := hr.below ((Below.refl _ _).alloc (Nat.le_refl _) _)
  go_enter Try.func14, Try.ntmps14
  go_wp2_with (first | (at_builtin; refine wpl_pushL eInt rfl (.tmp 4) (.tmp 5) rfl w.heap.size _ [] rfl h0 a c l rfl hr0 hnil (by simp only [List.length_nil]; omega) (by simp) ?_; rw [List.nil_append]; intro v1 w1 hown1 hb1 _) | (at_builtin; refine wpl_pushL eInt rfl (.tmp 6) (.tmp 7) rfl w.heap.size v1 l rfl (hown1.alloc _) (some ⟨w1.heap.size, 0, none⟩) 2 [-771, -772] rfl (RdL.lit w1 [-771, -772] _ (by unfold maxLen; simp) rfl) (by intro h; cases h) (by simp only [List.length_cons, List.length_nil]; omega) (by have := hb1.size; simp at this ⊢; omega) ?_; intro v2 w2 hown2 hb2 _; obtain ⟨g, c2, rfl, hle2, hmx2, hL, hBg⟩ := lent_own2 hown2))
  go_ret
  refine ⟨g, c2, rfl, hL, hBg, ?_⟩
  · exact ((((Below.refl _ _).alloc (Nat.le_refl _) _).trans hb1).alloc (by have := hb1.size; simp at this; omega) _).trans hb2
theorem LentL.bx {w w' : World} {g cap : Nat} {l : List Int} {X : Nat → Prop} (h : LentL w g cap l) (hb : Bx X w w') (hx : ¬ X g) : LentL w' g cap l :=
  ⟨h.room, h.le, h.rd.bx hb (fun x e => by cases e; exact hx), hb.cell h.m1 hx, hb.cell h.m2 hx⟩
end Go.Proofs.Ytemalidanjfmkaa
