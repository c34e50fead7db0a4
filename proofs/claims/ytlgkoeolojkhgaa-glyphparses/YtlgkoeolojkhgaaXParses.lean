/-
  The law GlyphParses, walked: it returns true, whatever the text.
-/
import Derived.Test.YtlgkoeolojkhgaaGLive
import Derived.Test.YtlgkoeolojkhgaaRParse
namespace Go.Proofs.Ytlgkoeolojkhgaa
open Go.RowKit

set_option maxRecDepth 100000 in
theorem glyphParses_walk (s : ByteArray) (w : World) (hs : s.size ≤ maxLen) :
    Calls Try.prog 3 #[.string s] w fun e w' => e = .returned (.bool true) ∧ Below w.heap.size w w' := by
  unfold maxLen at hs
  by_cases hm : 20000 < s.size
  · go_enter Try.func3, Try.ntmps3
    go_wp2_with (go_at_call 9; refine (live_any _).mono ?_; rintro e w' ⟨rfl, hb⟩)
    go_ret
    exact ⟨rfl, hb⟩
  · go_enter Try.func3, Try.ntmps3
    go_wp2_with fail
    refine (Parse_any s w).mono ?_
    rintro e w1 ⟨v1, rfl, hI1, B1⟩
    obtain ⟨a1, c1, rfl, -, hl1, hm1, R1, -⟩ := hI1.shape
    clear hI1
    go_wp2_with fail
    refine (RParse_any s w1 hs).mono ?_
    rintro e w2 ⟨v2, rfl, hI2, hb2⟩
    have B2 := bstep B1 hb2
    have R2 := R1.below hb2
    obtain ⟨a2, c2, rfl, -, -, -, S2, -⟩ := hI2.shape
    have hle := Nat.le_trans hl1 hm1
    clear R1 B1 hb2 hI2 hl1 hm1
    generalize prsV s = P at *
    obtain ⟨l, e1, at1⟩ := P
    go_wp2_with fail
    refine (same_runes a1 a2 c1 c2 l l w2 R2 S2 hle).mono ?_
    rw [show decide (l = l) = true from decide_eq_true rfl]
    rintro e w3 ⟨rfl, hb3⟩
    have B3 := bstep B2 hb3
    clear hb3 B2 R2 S2
    go_wp2_with (first | (go_at_call 13; refine (num_any _ _).mono ?_; rintro e w' ⟨rfl, rfl⟩) | (go_at_call 9; refine (live_any _).mono ?_; rintro e w4 ⟨rfl, hb4⟩))
    go_ret
    exact ⟨rfl, bstep B3 hb4⟩

end Go.Proofs.Ytlgkoeolojkhgaa
