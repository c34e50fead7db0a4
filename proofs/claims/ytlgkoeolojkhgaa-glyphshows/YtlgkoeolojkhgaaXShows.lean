/-
  The law GlyphShows, walked: it returns true, whatever the names and the word.
-/
import Derived.Test.YtlgkoeolojkhgaaGLive
import Derived.Test.YtlgkoeolojkhgaaRShow
import Derived.Test.YtlgkoeolojkhgaaLentL
import Derived.Test.YtlgkoeolojkhgaaArgL
namespace Go.Proofs.Ytlgkoeolojkhgaa
open Go.RowKit

set_option maxRecDepth 100000 in
theorem glyphShows_walk (a0 : Option Addr) (c0 : Nat) (names : List Int) (a1 : Option Addr) (c1 : Nat) (l : List Int) (w : World) (h0 : ArgL .i32 4 w a0 c0 names) (h1 : ArgL .i64 8 w a1 c1 l) :
    Calls Try.prog 5 #[.slice a0 names.length c0, .slice a1 l.length c1] w fun e w' => e = .returned (.bool true) ∧ Below w.heap.size w w' := by
  have hle0 := h0.le
  have hre0 := h0.reach
  have hle1 := h1.le
  have hre1 := h1.reach
  by_cases hm : 1000 < names.length
  · go_enter Try.func5, Try.ntmps5
    go_wp2_with (go_at_call 9; refine (live_any _).mono ?_; rintro e w' ⟨rfl, hb⟩)
    go_ret
    exact ⟨rfl, hb⟩
  by_cases hm2 : 20000 < l.length
  · go_enter Try.func5, Try.ntmps5
    go_wp2_with (go_at_call 9; refine (live_any _).mono ?_; rintro e w' ⟨rfl, hb⟩)
    go_ret
    exact ⟨rfl, hb⟩
  · go_enter Try.func5, Try.ntmps5
    go_wp2_with fail
    refine (lent_list a1 c1 l w h1.rd h1.nil (by omega)).mono ?_
    rintro e w1 ⟨g, cap, rfl, L1, B1⟩
    have N1 := (h0.rd.below B1).below ((Below.refl _ w1).alloc (Nat.le_refl _) (.cells #[] 21))
    have O1 : OwnL .i32 21 (w1.alloc (.cells #[] 21)) w1.heap.size (.slice (some ⟨w1.heap.size, 0, none⟩) 0 0) [] := OwnL.lit w1 _ [] #[] (Nat.le_refl _) (by unfold maxLen; simp) rfl
    go_wp2_with (at_builtin; refine wpl_pushL e32 rfl (.tmp 22) (.tmp 23) rfl w1.heap.size _ [] rfl O1 a0 c0 names rfl N1 h0.nil (by simp only [List.length_nil]; omega) (by simp) ?_; rw [List.nil_append]; intro v2 w2 hown2 hb2 _; obtain ⟨a2, c2, rfl, -, hl2, hm2', R2, -⟩ := hown2.shape)
    have B12 : Below w1.heap.size w1 w2 := ((Below.refl _ _).alloc (Nat.le_refl _) _).trans hb2
    have L2 := L1.below B12
    have B2 := bstep B1 B12
    have N2 := h0.rd.below B2
    have W2 := h1.rd.below B2
    have hmx := Nat.le_trans hl2 hm2'
    clear O1 N1 hown2 hb2 L1 B1 B12 hl2 hm2'
    refine (Show_any a2 (some ⟨g, 0, none⟩) c2 cap names l w2 R2 L2.rd (by omega) h0.fits).mono ?_
    rintro e w3 ⟨rfl, hb3⟩
    have B3 := bstep B2 hb3
    have L3 := L2.below hb3
    have N3 := N2.below hb3
    have W3 := W2.below hb3
    have R3 := R2.below hb3
    clear B2 L2 N2 W2 R2 hb3
    go_wp2_with fail
    refine (RShow_any a0 a1 c0 c1 names l w3 N3 W3 (by omega)).mono ?_
    rintro e w4 ⟨rfl, hb4⟩
    have B4 := bstep B3 hb4
    have L4 := L3.below hb4
    have N4 := N3.below hb4
    have W4 := W3.below hb4
    have R4 := R3.below hb4
    clear B3 L3 N3 W3 R3 hb4
    generalize shwV names l = P at *
    obtain ⟨t, e1⟩ := P
    go_wp2_with (first | (go_at_call 13; refine (num_any _ _).mono ?_; rintro e w' ⟨rfl, rfl⟩) | (go_at_call 20; refine (kept_list g cap c1 l a1 _ L4 W4).mono ?_; rintro e w5 ⟨rfl, hb5⟩; have B5 := bstep B4 hb5; have N5 := N4.below hb5; have R5 := R4.below hb5) | (go_at_call 12; refine (same_runes a2 a0 c2 c0 names names _ R5 N5 hmx).mono ?_; rw [show decide (names = names) = true from decide_eq_true rfl]; rintro e w6 ⟨rfl, hb6⟩; have B6 := bstep B5 hb6) | (go_at_call 9; refine (live_any _).mono ?_; rintro e w7 ⟨rfl, hb7⟩))
    go_ret
    exact ⟨rfl, bstep B6 hb7⟩

end Go.Proofs.Ytlgkoeolojkhgaa
