/-
  The law WordOrders returns true in every world, for any two lists, and turns nothing that was there.
-/
import Derived.Test.YtpbceijlpkggpaaLive
import Derived.Test.YtpbceijlpkggpaaArg
namespace Go.Proofs.Ytpbceijlpkggpaa
open Go.RowKit

theorem wordOrders_walk (a0 : Option Addr) (n0 c0 : Nat) (f0 : Nat → Int) (a1 : Option Addr) (n1 c1 : Nat) (f1 : Nat → Int) (w : World) (h0 : Arg w a0 n0 c0 f0) (h1 : Arg w a1 n1 c1 f1) :
    Calls Try.prog 4 #[.slice a0 n0 c0, .slice a1 n1 c1] w fun e w' => e = .returned (.bool true) ∧ Below w.heap.size w w' := by
  go_enter Try.func4, Try.ntmps4
  go_wp2_with fail
  refine (lent_any a0 n0 c0 f0 w h0.rd h0.nil h0.bytes).mono ?_
  rintro e w1 ⟨g, cap, rfl, L, hg, hb1⟩
  go_wp2_with fail
  refine (lent_any a1 n1 c1 f1 w1 (h1.rd.below hb1) h1.nil h1.bytes).mono ?_
  rintro e w2 ⟨g', cap', rfl, L', hg', hb2⟩
  have B2 := bstep hb1 hb2
  have L2 := L.below hb2
  go_wp2_with fail
  refine (compare_any _ _ n0 cap n1 cap' f0 f1 w2 L2.rd L'.rd h0.max h1.max).mono ?_
  rintro e w3 ⟨rfl, hb3⟩
  have B3 := bstep B2 hb3
  have L3 := L2.below hb3
  have L3' := L'.below hb3
  go_wp2_with fail
  refine (rcompare_any a0 a1 n0 c0 n1 c1 f0 f1 w3 (h0.rd.below B3) (h1.rd.below B3) h0.max h1.max).mono ?_
  rintro e w4 ⟨rfl, hb4⟩
  have B4 := bstep B3 hb4
  have L4 := L3.below hb4
  have L4' := L3'.below hb4
  generalize cmpV n0 f0 n1 f1 = x
  clear L L2 L3 L' L3' hb1 hb2 hb3 hb4 B2 B3
  go_wp2_with fail
  refine (kept_any g n0 cap c0 f0 f0 a0 w4 L4 (h0.rd.below B4) fun _ _ => rfl).mono ?_
  rintro e w5 ⟨rfl, hb5⟩
  have B5 := bstep B4 hb5
  have L5' := L4'.below hb5
  go_wp2_with fail
  refine (kept_any g' n1 cap' c1 f1 f1 a1 w5 L5' (h1.rd.below B5) fun _ _ => rfl).mono ?_
  rintro e w6 ⟨rfl, hb6⟩
  have B6 := bstep B5 hb6
  go_wp2_with fail
  refine (live_any w6).mono ?_
  rintro e w7 ⟨rfl, hb7⟩
  have B7 := bstep B6 hb7
  go_wp2
  go_ret
  exact ⟨rfl, B7⟩

end Go.Proofs.Ytpbceijlpkggpaa
