/-
  The law WordCounts returns true in every world, for all arguments, and turns nothing that was there.
-/
import Derived.Test.YtpbceijlpkggpaaLive
import Derived.Test.YtpbceijlpkggpaaArg
namespace Go.Proofs.Ytpbceijlpkggpaa
open Go.RowKit

theorem wordCounts_walk (a b k n : Int) (w : World) (_ha : Fits a) (_hb : Fits b) (_hk : Fits k) (hn : Fits n) :
    Calls Try.prog 7 #[.int .i64 a, .int .i64 b, .int .i64 k, .int .i64 n] w fun e w' => e = .returned (.bool true) ∧ Below w.heap.size w w' := by
  go_enter Try.func7, Try.ntmps7
  go_wp2_with fail
  refine (add_any a b w).mono ?_
  rintro e w' ⟨rfl, rfl⟩
  go_wp2_with fail
  refine (radd_any a b w').mono ?_
  rintro e w ⟨rfl, rfl⟩
  generalize (addV a b).1 = x1
  generalize (addV a b).2 = x2
  go_wp2_with fail
  refine (mul_any a b w).mono ?_
  rintro e w' ⟨rfl, rfl⟩
  go_wp2_with fail
  refine (rmul_any a b w').mono ?_
  rintro e w ⟨rfl, rfl⟩
  generalize (mulV a b).1 = x3
  generalize (mulV a b).2 = x4
  go_wp2_with fail
  refine (count_any k n w hn.2).mono ?_
  rintro e w' ⟨rfl, rfl⟩
  go_wp2_with fail
  refine (rcount_any k n w' hn.2).mono ?_
  rintro e w ⟨rfl, rfl⟩
  generalize (countV k n).1 = x5
  generalize (countV k n).2 = x6
  go_wp2_with (first | (go_at_call 15; refine (num_any _ _).mono ?_; rintro e w' ⟨rfl, rfl⟩) | fail)
  refine (live_any _).mono ?_
  rintro e w6 ⟨rfl, hb6⟩
  go_wp2
  go_ret
  exact ⟨rfl, hb6⟩

end Go.Proofs.Ytpbceijlpkggpaa
