/-
  The law GlyphReads, walked: it returns true, whatever the names and the text.
-/
import Derived.Test.YtlgkoeolojkhgaaGLive
import Derived.Test.YtlgkoeolojkhgaaRRead
import Derived.Test.YtlgkoeolojkhgaaArgL
namespace Go.Proofs.Ytlgkoeolojkhgaa
open Go.RowKit

set_option maxRecDepth 100000 in
theorem glyphReads_walk (a0 : Option Addr) (c0 : Nat) (names : List Int) (s : ByteArray) (w : World) (h0 : ArgL .i32 4 w a0 c0 names) (hs : s.size ≤ maxLen) :
    Calls Try.prog 4 #[.slice a0 names.length c0, .string s] w fun e w' => e = .returned (.bool true) ∧ Below w.heap.size w w' := by
  unfold maxLen at hs
  have hle0 := h0.le
  have hre0 := h0.reach
  by_cases hm : 20000 < s.size
  · go_enter Try.func4, Try.ntmps4
    go_wp2_with (go_at_call 9; refine (live_any _).mono ?_; rintro e w' ⟨rfl, hb⟩)
    go_ret
    exact ⟨rfl, hb⟩
  by_cases hm2 : 1000 < names.length
  · go_enter Try.func4, Try.ntmps4
    go_wp2_with (go_at_call 9; refine (live_any _).mono ?_; rintro e w' ⟨rfl, hb⟩)
    go_ret
    exact ⟨rfl, hb⟩
  · go_enter Try.func4, Try.ntmps4
    go_wp2_with fail
    refine (Read_any a0 c0 names s w h0.rd (by unfold maxLen; omega) h0.fits).mono ?_
    rintro e w1 ⟨v1, rfl, hI1, B1⟩
    obtain ⟨a1, c1, rfl, -, hl1, hm1, R1, -⟩ := hI1.shape
    have N1 := h0.rd.below B1
    clear hI1
    go_wp2_with fail
    refine (RRead_any a0 c0 names s w1 N1 (by unfold maxLen; omega) hs).mono ?_
    rintro e w2 ⟨v2, rfl, hI2, hb2⟩
    have B2 := bstep B1 hb2
    have R2 := R1.below hb2
    obtain ⟨a2, c2, rfl, -, -, -, S2, -⟩ := hI2.shape
    have hle := Nat.le_trans hl1 hm1
    clear R1 B1 hb2 hI2 hl1 hm1
    generalize rdsV names s = P at *
    obtain ⟨l, e1, at1⟩ := P
    go_wp2_with fail
    refine (same_list a1 a2 c1 c2 l l w2 R2 S2 hle).mono ?_
    rw [show decide (l = l) = true from decide_eq_true rfl]
    rintro e w3 ⟨rfl, hb3⟩
    have B3 := bstep B2 hb3
    clear hb3 B2 R2 S2
    go_wp2_with (first | (go_at_call 13; refine (num_any _ _).mono ?_; rintro e w' ⟨rfl, rfl⟩) | (go_at_call 9; refine (live_any _).mono ?_; rintro e w4 ⟨rfl, hb4⟩))
    go_ret
    exact ⟨rfl, bstep B3 hb4⟩

end Go.Proofs.Ytlgkoeolojkhgaa
