/-
  Small words on cells and results that the walks of machines share.
-/
import Derived.Test.YtdlcbjbcehpooaaRMCheck
import Derived.Test.YtdlcbjbcehpooaaMGo
import Derived.Test.YtdlcbjbcehpooaaSameL
namespace Go.Proofs.Ytdlcbjbcehpooaa
open Go.RowKit

theorem ret_iv {k : IntKind} {a b : Int} {v : Value} (h : a = b) : Ending.returned (.tuple #[.int k a, v]) = .returned (.tuple #[.int k b, v]) := by rw [h]
theorem RdL.cellIn {q : IntKind} {w w' : World} {a : Option Addr} {l : List Int} {b off P : Nat} {y : Int} (h : RdL q w a l) (hb : Below w.heap.size w w') (e : a = some ⟨b, off, none⟩) (hP : P < l.length) (hy : y = l.getD P 0) : w'.cell? ⟨b, off + P, none⟩ = some (.int q y) := by
  obtain ⟨b2, off2, e2, hc⟩ := (h.below hb).at hP
  rw [e] at e2
  cases e2
  rw [hy]; exact hc P hP
theorem bdrew1 (w : World) : Below w.heap.size w w.drew := ⟨rfl, rfl, rfl, Nat.le_refl _, fun _ _ => rfl⟩


end Go.Proofs.Ytdlcbjbcehpooaa
