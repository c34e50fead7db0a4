/-
  The law DifferStates of the landed program: it returns true, whatever the input.
-/
import Derived.Test.YtknefgdcnacfoaaDApi
import Derived.Test.YtknefgdcnacfoaaEStates
namespace Go.Proofs.Ytknefgdcnacfoaa
open Go.RowKit

theorem differStates_walk (m0 : Mc) (a0 : Option Addr) (c0 : Nat) (b0 : Option Addr) (e0 : Nat) (s t : Int) (w : World) (h0 : ArgM w m0 a0 c0 b0 e0) (_ : Fits s) (_ : Fits t) :
    Calls Try.prog 4 #[mval m0 a0 c0 b0 e0, .int .i64 s, .int .i64 t] w fun e w' => e = .returned (.bool true) ∧ Below w.heap.size w w' := differStates_walkC dctr m0 a0 c0 b0 e0 s t w h0
end Go.Proofs.Ytknefgdcnacfoaa
