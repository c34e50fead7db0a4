/-
  The law DifferFirst of the landed program: it returns true, whatever the input.
-/
import Derived.Test.YtknefgdcnacfoaaDApi
import Derived.Test.YtknefgdcnacfoaaEFirst
namespace Go.Proofs.Ytknefgdcnacfoaa
open Go.RowKit

theorem differFirst_walk (m0 : Mc) (a0 : Option Addr) (c0 : Nat) (b0 : Option Addr) (e0 : Nat) (m1 : Mc) (a1 : Option Addr) (c1 : Nat) (b1 : Option Addr) (e1 : Nat) (a2 : Option Addr) (c2 : Nat) (l : List Int) (w : World) (h0 : ArgM w m0 a0 c0 b0 e0) (h1 : ArgM w m1 a1 c1 b1 e1) (h2 : ArgL .i64 8 w a2 c2 l) :
    Calls Try.prog 6 #[mval m0 a0 c0 b0 e0, mval m1 a1 c1 b1 e1, .slice a2 l.length c2] w fun e w' => e = .returned (.bool true) ∧ Below w.heap.size w w' := differFirst_walkC dctr m0 a0 c0 b0 e0 m1 a1 c1 b1 e1 a2 c2 l w h0 h1 h2
end Go.Proofs.Ytknefgdcnacfoaa
