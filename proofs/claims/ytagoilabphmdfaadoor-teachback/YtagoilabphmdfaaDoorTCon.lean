/-
  Bytes of a constant.
-/
import Derived.Test.YtagoilabphmdfaaDoorTByt
import Derived.Test.YtagoilabphmdfaaDoorK1
import Derived.Lib.SlBytesConst
namespace Go.Proofs.YtagoilabphmdfaaDoor
open Go.RowKit

/-- []byte of a constant. -/
theorem conv_const (w : World) (C : Array Value) (n c : Nat) : (convert 26 26 (.slice (some ⟨w.heap.size, 0, none⟩) n c)).run Tryd.prog (w.alloc (.cells C 5)) = .ok (.slice (some ⟨w.heap.size, 0, none⟩) n c) (w.alloc (.cells C 5 (C.size, C.size + 1))) := Lib.run_convert_bytes_const (P := Tryd.prog) w 26 5 C n c Tryd.underlying26 Tryd.underlying5
theorem RdL.const (w : World) (b : List UInt8) (C : Array Value) (fz : Nat × Nat) (hC : C.toList = (zs b).map (Value.int .u8)) : RdL .u8 (w.alloc (.cells C 5 fz)) (some ⟨w.heap.size, 0, none⟩) (zs b) := by
  by_cases h0 : (zs b).length = 0
  · exact .inl h0
  · refine .inr ⟨w.heap.size, 0, rfl, fun i hi => ?_⟩
    rw [Nat.zero_add]
    have e : C[i]? = some (.int .u8 ((zs b).getD i 0)) := by
      rw [← Array.getElem?_toList, hC, map_getD hi]
    rw [World.cell?_alloc_mark]
    simpa using e

end Go.Proofs.YtagoilabphmdfaaDoor
