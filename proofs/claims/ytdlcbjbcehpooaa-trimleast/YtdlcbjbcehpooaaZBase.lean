/-
  Small words that the walks of layer 4's laws share.
-/
import Derived.Test.YtdlcbjbcehpooaaTLive
import Derived.Test.YtdlcbjbcehpooaaTSameM
import Derived.Test.YtdlcbjbcehpooaaArgM
namespace Go.Proofs.Ytdlcbjbcehpooaa
open Go.RowKit

theorem big_bounds {N : Int} {m : Mc} (h : bigB N m = false) : m.n ≤ N ∧ m.nx.length ≤ 70000 ∧ m.out.length ≤ 70000 := by
  unfold bigB at h
  have := of_decide_eq_false h
  omega
theorem self_eq (x : Int) : (x == x) = true := by simp
theorem self_ne (x : Int) : (x != x) = false := by simp

end Go.Proofs.Ytdlcbjbcehpooaa
