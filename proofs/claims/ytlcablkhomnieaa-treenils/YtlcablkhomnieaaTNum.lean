/-
  The program's Number, the reference's Number: the same.
-/
import Derived.Test.YtlcablkhomnieaaUNum
import Derived.Test.YtlcablkhomnieaaTByt
namespace Go.Proofs.Ytlcablkhomnieaa
open Go.RowKit

/-- Bytes in memory. -/
theorem RdL.byte {w : World} {a : Option Addr} {b : List UInt8} (h : RdL .u8 w a (zs b)) {p : Nat} (hp : p < b.length) :
    ∃ g off, a = some ⟨g, off, none⟩ ∧ ∀ j, j < b.length → w.cell? ⟨g, off + j, none⟩ = some (.int .u8 (bt8 b j)) := by
  obtain ⟨g, off, e, hc⟩ := h.at (i := p) (by rw [zs_len]; exact hp)
  refine ⟨g, off, e, fun j hj => ?_⟩
  rw [hc j (by rw [zs_len]; exact hj), zs_getD hj]
  rfl
theorem ret3 {a b c a' b' c' : Int} (h1 : a = a') (h2 : b = b') (h3 : c = c') : Ending.returned (.tuple #[.int .i64 a, .int .i64 b, .int .i64 c]) = .returned (.tuple #[.int .i64 a', .int .i64 b', .int .i64 c']) := by rw [h1, h2, h3]

def isD (x : Int) : Bool := decide (48 ≤ x ∧ x ≤ 57)
end Go.Proofs.Ytlcablkhomnieaa
