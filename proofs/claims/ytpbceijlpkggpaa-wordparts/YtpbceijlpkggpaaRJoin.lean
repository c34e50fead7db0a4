/-
  What the reference's Join returns, for two lists that are not too long together.
-/
import Derived.Test.YtpbceijlpkggpaaOwn
namespace Go.Proofs.Ytpbceijlpkggpaa
open Go.RowKit

theorem rjoin_any (a : Option Addr) (n c : Nat) (f : Nat → Int) (a' : Option Addr) (n' c' : Nat) (f' : Nat → Int) (w : World) (hr : Rd w a n f) (hnil : a = none → n = 0 ∧ c = 0) (hr' : Rd w a' n' f') (hnil' : a' = none → n' = 0 ∧ c' = 0)
    (hn : (n + n') * 8 ≤ 140737488355328) :
    Calls Try.prog 24 #[.slice a n c, .slice a' n' c'] w fun e w' => ∃ v, e = .returned v ∧ Own w' w.heap.size v (n + n') (joinF n f f') ∧ Below w.heap.size w w' := by
  have h0 : Own (w.alloc (.cells #[] 3)) w.heap.size (.slice (some ⟨w.heap.size, 0, none⟩) 0 0) 0 f := Own.lit w _ 0 f #[] (Nat.le_refl _) (by unfold maxLen; omega) rfl
  have hb0 : Below w.heap.size w (w.alloc (.cells #[] 3)) := (Below.refl _ _).alloc (Nat.le_refl _) _
  go_enter Try.func24, Try.ntmps24
  go_wp2_with (first | (at_builtin; refine wpl_append rfl (.tmp 5) (.tmp 6) rfl w.heap.size _ 0 f rfl h0 a n c f rfl (hr.below hb0) hnil (by omega) (by simp) ?_; intro v1 w1 hown1 hb1 _) | (at_builtin; refine wpl_append rfl (.tmp 7) (.tmp 8) rfl w.heap.size v1 (0 + n) (joinF 0 f f) rfl hown1 a' n' c' f' rfl (hr'.below (hb0.trans hb1)) hnil' (by omega) (by have := hb1.size; simp at this ⊢; omega) ?_; intro v2 w2 hown2 hb2 _))
  go_ret
  refine ⟨_, rfl, ?_, (hb0.trans hb1).trans hb2⟩
  have h := hown2.congr (g := joinF n f f') fun i hi => by
    by_cases c : i < n
    · rw [joinF_lt (by omega), joinF_ge (by omega), joinF_lt c]; rfl
    · rw [joinF_ge (by omega), joinF_ge (by omega), Nat.zero_add]
  rwa [Nat.zero_add] at h

end Go.Proofs.Ytpbceijlpkggpaa
