/-
  The law DifferSeparates of the landed program: it returns true, whatever the input.
-/
import Derived.Test.YtknefgdcnacfoaaDApi
import Derived.Test.YtknefgdcnacfoaaESeps
namespace Go.Proofs.Ytknefgdcnacfoaa
open Go.RowKit

theorem differSeparates_walk (m0 : Mc) (a0 : Option Addr) (c0 : Nat) (b0 : Option Addr) (e0 : Nat) (m1 : Mc) (a1 : Option Addr) (c1 : Nat) (b1 : Option Addr) (e1 : Nat) (w : World) (h0 : ArgM w m0 a0 c0 b0 e0) (h1 : ArgM w m1 a1 c1 b1 e1) :
    Calls Try.prog 3 #[mval m0 a0 c0 b0 e0, mval m1 a1 c1 b1 e1] w fun e w' => e = .returned (.bool true) ∧ Below w.heap.size w w' := differSeparates_walkC dctr m0 a0 c0 b0 e0 m1 a1 c1 b1 e1 w h0 h1
end Go.Proofs.Ytknefgdcnacfoaa
