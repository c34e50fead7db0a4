/-
  The law DifferPairs of the landed program: it returns true, whatever the input.
-/
import Derived.Test.YtknefgdcnacfoaaDApi
import Derived.Test.YtknefgdcnacfoaaEPairs
import Derived.Test.YtknefgdcnacfoaaDPairs
import Derived.Test.YtknefgdcnacfoaaDSort
namespace Go.Proofs.Ytknefgdcnacfoaa
open Go.RowKit

theorem prsC : PrsC := prsC_of sortC
theorem differPairs_walk (m0 : Mc) (a0 : Option Addr) (c0 : Nat) (b0 : Option Addr) (e0 : Nat) (w : World) (h0 : ArgM w m0 a0 c0 b0 e0) :
    Calls Try.prog 5 #[mval m0 a0 c0 b0 e0] w fun e w' => e = .returned (.bool true) ∧ Below w.heap.size w w' := differPairs_walkC dctr prsC m0 a0 c0 b0 e0 w h0
end Go.Proofs.Ytknefgdcnacfoaa
