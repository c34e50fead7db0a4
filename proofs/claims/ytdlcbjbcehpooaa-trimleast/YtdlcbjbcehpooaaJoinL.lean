/-
  What the reference's Join returns, for two lists that are not too long together; with lists.
-/
import Derived.Test.YtdlcbjbcehpooaaSeq
namespace Go.Proofs.Ytdlcbjbcehpooaa
open Go.RowKit

theorem join_list (a : Option Addr) (c : Nat) (l : List Int) (a' : Option Addr) (c' : Nat) (l' : List Int) (w : World) (hr : RdL .i64 w a l) (hnil : a = none → l.length = 0 ∧ c = 0) (hr' : RdL .i64 w a' l') (hnil' : a' = none → l'.length = 0 ∧ c' = 0)
    (hn : (l.length + l'.length) * 8 ≤ 140737488355328) :
    Calls Try.prog 34 #[.slice a l.length c, .slice a' l'.length c'] w fun e w' => ∃ v, e = .returned v ∧ OwnL .i64 3 w' w.heap.size v (l ++ l') ∧ Below w.heap.size w w' := by
  have h0 : OwnL .i64 3 (w.alloc (.cells #[] 3)) w.heap.size (.slice (some ⟨w.heap.size, 0, none⟩) 0 0) [] := OwnL.lit w _ [] #[] (Nat.le_refl _) (by unfold maxLen; simp) rfl
  have hb0 : Below w.heap.size w (w.alloc (.cells #[] 3)) := (Below.refl _ _).alloc (Nat.le_refl _) _
  go_enter Try.func34, Try.ntmps34
  go_wp2_with (first | (at_builtin; refine wpl_pushL eInt rfl (.tmp 5) (.tmp 6) rfl w.heap.size _ [] rfl h0 a c l rfl (hr.below hb0) hnil (by simp only [List.length_nil]; omega) (by simp) ?_; rw [List.nil_append]; intro v1 w1 hown1 hb1 _) | (at_builtin; refine wpl_pushL eInt rfl (.tmp 7) (.tmp 8) rfl w.heap.size v1 l rfl hown1 a' c' l' rfl (hr'.below (hb0.trans hb1)) hnil' (by omega) (by have := hb1.size; simp at this ⊢; omega) ?_; intro v2 w2 hown2 hb2 _))
  go_ret
  exact ⟨_, rfl, hown2, (hb0.trans hb1).trans hb2⟩

end Go.Proofs.Ytdlcbjbcehpooaa
