/-
  The law WordChecks returns true in every world, for every list and every k, and turns nothing that was there.
-/
import Derived.Test.YtpbceijlpkggpaaLive
import Derived.Test.YtpbceijlpkggpaaArg
namespace Go.Proofs.Ytpbceijlpkggpaa
open Go.RowKit

theorem wordChecks_walk (a0 : Option Addr) (n0 c0 : Nat) (f0 : Nat → Int) (k : Int) (w : World) (h0 : Arg w a0 n0 c0 f0) (_hk : Fits k) :
    Calls Try.prog 3 #[.slice a0 n0 c0, .int .i64 k] w fun e w' => e = .returned (.bool true) ∧ Below w.heap.size w w' := by
  go_enter Try.func3, Try.ntmps3
  go_wp2_with fail
  refine (lent_any a0 n0 c0 f0 w h0.rd h0.nil h0.bytes).mono ?_
  rintro e w1 ⟨g, cap, rfl, L, hg, hb1⟩
  go_wp2_with fail
  refine (check_any _ n0 cap f0 k w1 L.rd h0.max).mono ?_
  rintro e w' ⟨rfl, rfl⟩
  go_wp2_with fail
  refine (rcheck_any a0 n0 c0 f0 k w' (h0.rd.below hb1) h0.max).mono ?_
  rintro e w1 ⟨rfl, rfl⟩
  generalize (chkV n0 f0 k).1 = x
  generalize (chkV n0 f0 k).2 = y
  go_wp2_with (first | (go_at_call 15; refine (num_any _ _).mono ?_; rintro e w' ⟨rfl, rfl⟩) | fail)
  refine (kept_any g n0 cap c0 f0 f0 a0 _ L (h0.rd.below hb1) fun _ _ => rfl).mono ?_
  rintro e w2 ⟨rfl, hb2⟩
  have B2 := bstep hb1 hb2
  go_wp2_with fail
  refine (live_any w2).mono ?_
  rintro e w3 ⟨rfl, hb3⟩
  have B3 := bstep B2 hb3
  go_wp2
  go_ret
  exact ⟨rfl, B3⟩

end Go.Proofs.Ytpbceijlpkggpaa
