/-
  TextNumbers, walked: for every input the call returns true.
-/
import Derived.Test.YtdnmabemollbeaaDoorTLive
import Derived.Test.YtdnmabemollbeaaDoorTPut
import Derived.Test.YtdnmabemollbeaaDoorK5
namespace Go.Proofs.YtdnmabemollbeaaDoor
set_option linter.unusedVariables false
open Go.RowKit



set_option maxRecDepth 100000 in
set_option maxHeartbeats 4000000 in
theorem textNumbers_walk (a : Option Addr) (c : Nat) (l : List Int) (x n : Int) (w : World) (hA : ArgL .u8 1 w a c l) (hx : Fits x) (hn : Fits n) (g : Gl w) :
    Calls Tryd.prog 5 #[.slice a l.length c, .int .i64 x, .int .i64 n] w fun e w' => e = .returned (.bool true) ∧ Below w.heap.size w w' := by
  obtain ⟨b, rfl⟩ := zs_of hA.fits
  have hrd := hA.rd
  have hlv := live_any
  rw [zs_len]
  by_cases hl : 20000 < b.length
  · have hl' : (b.length : Int) > 20000 := by omega
    go_enter Tryd.func5, Tryd.ntmps5
    go_wp2_with (go_at_call 12; refine (live_any w g).mono ?_; rintro e w1 ⟨rfl, hb1⟩)
    go_ret
    exact ⟨rfl, hb1⟩
  · have hl' : ¬ ((b.length : Int) > 20000) := by omega
    have h1 := number_any a c b x w hrd (by omega)
    have h2 := rnumber_any a c b x w hrd (by omega)
    clear hA
    generalize nmV b x = r at *
    obtain ⟨r1, r2, r3⟩ := r
    go_enter Tryd.func5, Tryd.ntmps5
    go_wp2_with fail
    refine h1.mono ?_
    rintro e w' ⟨rfl, hw'⟩
    subst w'
    go_wp2_with fail
    refine h2.mono ?_
    rintro e w' ⟨rfl, hw'⟩
    subst w'
    clear h1 h2
    dsimp only
    go_wp2_with fail
    refine (num_any r3 w).mono ?_
    rintro e w' ⟨rfl, hw'⟩
    subst w'
    go_wp2_with fail
    refine (put_any n w hn g).mono ?_
    rintro e w1 ⟨v1, rfl, ho1, hb1⟩
    have g1 := g.below hb1
    go_wp2_with fail
    refine (rput_any (n.natAbs + 1) n w1 (Nat.lt_succ_self _) hn.1 hn.2).mono ?_
    rintro e w2 ⟨v2, rfl, ho2, hb2⟩
    have b2 := bstep hb1 hb2
    have g2 := g.below b2
    obtain ⟨a1, c1, rfl, hn1, -, -, rd1, -⟩ := ho1.shape
    obtain ⟨a2, c2, rfl, hn2, -, -, rd2, -⟩ := ho2.shape
    rw [zs_len] at hn1 hn2
    have hs := bsame_any a1 a2 c1 c2 (Lib.itoa n) (Lib.itoa n) w2 (rd1.below hb2) rd2 hn1 hn2
    rw [decide_eq_true rfl] at hs
    rw [zs_len]
    go_wp2_with fail
    refine hs.mono ?_
    rintro e w' ⟨rfl, hw'⟩
    subst w'
    go_wp2_with (go_at_call 12; refine (live_any w2 g2).mono ?_; rintro e w3 ⟨rfl, hb3⟩)
    go_ret
    exact ⟨rfl, bstep b2 hb3⟩

end Go.Proofs.YtdnmabemollbeaaDoor
