/-
  Which k are alphabets: isAlphabet.
-/
import Derived.Test.YtlcablkhomnieaaK1
namespace Go.Proofs.Ytlcablkhomnieaa
open Go.RowKit

def alpB (k : Int) : Bool := decide (1 ≤ k ∧ k ≤ 64)
theorem alp_yes {k : Int} (h1 : 1 ≤ k) (h2 : k ≤ 64) : alpB k = true := by unfold alpB; simp; omega
theorem alp_no {k : Int} (h : k < 1 ∨ 64 < k) : alpB k = false := by unfold alpB; simp; omega
theorem alp_iff {k : Int} : alpB k = true ↔ 1 ≤ k ∧ k ≤ 64 := by unfold alpB; simp

theorem isAlphabet_any (k : Int) (w : World) : Calls Try.prog 65 #[.int .i64 k] w fun e w' => e = .returned (.bool (alpB k)) ∧ w' = w := by
  by_cases h1 : 1 ≤ k
  · by_cases h2 : k ≤ 64
    · have H := hide (alp_yes h1 h2)
      go_enter Try.func65, Try.ntmps65
      go_wp2
      go_ret
      exact ⟨ret_bool (by rw [unhide H]), rfl⟩
    · have H := hide (alp_no (k := k) (by omega))
      go_enter Try.func65, Try.ntmps65
      go_wp2
      go_ret
      exact ⟨ret_bool (by rw [unhide H]), rfl⟩
  · have H := hide (alp_no (k := k) (by omega))
    go_enter Try.func65, Try.ntmps65
    go_wp2
    go_ret
    exact ⟨ret_bool (by rw [unhide H]), rfl⟩

end Go.Proofs.Ytlcablkhomnieaa
