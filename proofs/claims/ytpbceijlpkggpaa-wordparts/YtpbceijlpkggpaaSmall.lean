/-
  What the functions without memory return: isAlphabet, isCounter, num, cmp.Compare, Add and the reference's Add.
-/
import Derived.Test.YtpbceijlpkggpaaBase
import Derived.Test.YtpbceijlpkggpaaLists
namespace Go.Proofs.Ytpbceijlpkggpaa
open Go.RowKit

def alpB (k : Int) : Bool := decide (1 ≤ k ∧ k ≤ 64)
theorem alp_yes {k : Int} (h1 : 1 ≤ k) (h2 : k ≤ 64) : alpB k = true := by unfold alpB; simp; omega
theorem alp_no {k : Int} (h : k < 1 ∨ 64 < k) : alpB k = false := by unfold alpB; simp; omega
theorem alp_iff {k : Int} : alpB k = true ↔ 1 ≤ k ∧ k ≤ 64 := by unfold alpB; simp

theorem isAlphabet_any (k : Int) (w : World) : Calls Try.prog 41 #[.int .i64 k] w fun e w' => e = .returned (.bool (alpB k)) ∧ w' = w := by
  by_cases h1 : 1 ≤ k
  · by_cases h2 : k ≤ 64
    · have H := hide (alp_yes h1 h2)
      go_enter Try.func41, Try.ntmps41
      go_wp2
      go_ret
      exact ⟨ret_bool (by rw [unhide H]), rfl⟩
    · have H := hide (alp_no (k := k) (by omega))
      go_enter Try.func41, Try.ntmps41
      go_wp2
      go_ret
      exact ⟨ret_bool (by rw [unhide H]), rfl⟩
  · have H := hide (alp_no (k := k) (by omega))
    go_enter Try.func41, Try.ntmps41
    go_wp2
    go_ret
    exact ⟨ret_bool (by rw [unhide H]), rfl⟩

def cntB (a : Int) : Bool := decide (0 ≤ a ∧ a ≤ 1099511627776)
theorem cnt_yes {k : Int} (h1 : 0 ≤ k) (h2 : k ≤ 1099511627776) : cntB k = true := by unfold cntB; simp; omega
theorem cnt_no {k : Int} (h : k < 0 ∨ 1099511627776 < k) : cntB k = false := by unfold cntB; simp; omega

theorem isCounter_any (k : Int) (w : World) : Calls Try.prog 46 #[.int .i64 k] w fun e w' => e = .returned (.bool (cntB k)) ∧ w' = w := by
  by_cases h1 : 0 ≤ k
  · by_cases h2 : k ≤ 1099511627776
    · have H := hide (cnt_yes h1 h2)
      go_enter Try.func46, Try.ntmps46
      go_wp2
      go_ret
      exact ⟨ret_bool (by rw [unhide H]), rfl⟩
    · have H := hide (cnt_no (k := k) (by omega))
      go_enter Try.func46, Try.ntmps46
      go_wp2
      go_ret
      exact ⟨ret_bool (by rw [unhide H]), rfl⟩
  · have H := hide (cnt_no (k := k) (by omega))
    go_enter Try.func46, Try.ntmps46
    go_wp2
    go_ret
    exact ⟨ret_bool (by rw [unhide H]), rfl⟩

theorem num_any (k : Int) (w : World) : Calls Try.prog 15 #[.int .i64 k] w fun e w' => e = .returned (.int .i64 k) ∧ w' = w := by
  go_enter Try.func15, Try.ntmps15
  go_wp2
  go_ret
  exact ⟨rfl, rfl⟩

theorem cmpInt_any (a b : Int) (w : World) : Calls Try.prog 42 #[.int .i64 a, .int .i64 b] w fun e w' => e = .returned (.int .i64 (cmp a b)) ∧ w' = w := by
  have hn : ((a != a)) = false := by simp
  have hm : ((b != b)) = false := by simp
  by_cases h1 : a < b
  · have H : Hid (cmp a b = -1) := by unfold cmp; rw [if_pos h1]; exact rfl
    go_enter Try.func42, Try.ntmps42
    go_wp2
    go_ret
    exact ⟨ret_int (by rw [unhide H]), rfl⟩
  · by_cases h2 : b < a
    · have H : Hid (cmp a b = 1) := by unfold cmp; rw [if_neg h1, if_pos h2]; exact rfl
      go_enter Try.func42, Try.ntmps42
      go_wp2
      go_ret
      exact ⟨ret_int (by rw [unhide H]), rfl⟩
    · have H : Hid (cmp a b = 0) := by unfold cmp; rw [if_neg h1, if_neg h2]; exact rfl
      go_enter Try.func42, Try.ntmps42
      go_wp2
      go_ret
      exact ⟨ret_int (by rw [unhide H]), rfl⟩

/-- Add, as the document has it: the sum and the error. -/
def addV (a b : Int) : Int × Int :=
  if a < 0 ∨ b < 0 ∨ 1099511627776 < a ∨ 1099511627776 < b then (0, 1) else if 1099511627776 < a + b then (0, 11) else (a + b, 0)

theorem add_any (a b : Int) (w : World) : Calls Try.prog 31 #[.int .i64 a, .int .i64 b] w fun e w' => e = .returned (.tuple #[.int .i64 (addV a b).1, .int .i64 (addV a b).2]) ∧ w' = w := by
  by_cases ha : 0 ≤ a ∧ a ≤ 1099511627776
  · obtain ⟨a0, a1⟩ := ha
    have ca := cnt_yes a0 a1
    by_cases hb : 0 ≤ b ∧ b ≤ 1099511627776
    · obtain ⟨b0, b1⟩ := hb
      have cb := cnt_yes b0 b1
      by_cases hs : 1099511627776 < a + b
      · have H : Hid (addV a b = (0, 11)) := by unfold addV; rw [if_neg (by omega), if_pos hs]; exact rfl
        go_enter Try.func31, Try.ntmps31
        go_wp2_with (go_at_call 46; refine (isCounter_any _ _).mono ?_; rintro e w' ⟨rfl, rfl⟩)
        go_ret2
        exact ⟨by rw [unhide H]; rfl, rfl⟩
      · have H : Hid (addV a b = (a + b, 0)) := by unfold addV; rw [if_neg (by omega), if_neg hs]; exact rfl
        go_enter Try.func31, Try.ntmps31
        go_wp2_with (go_at_call 46; refine (isCounter_any _ _).mono ?_; rintro e w' ⟨rfl, rfl⟩)
        go_ret2
        exact ⟨by rw [unhide H]; rfl, rfl⟩
    · have cb := cnt_no (k := b) (by omega)
      have H : Hid (addV a b = (0, 1)) := by unfold addV; rw [if_pos (by omega)]; exact rfl
      go_enter Try.func31, Try.ntmps31
      go_wp2_with (go_at_call 46; refine (isCounter_any _ _).mono ?_; rintro e w' ⟨rfl, rfl⟩)
      go_ret2
      exact ⟨by rw [unhide H]; rfl, rfl⟩
  · have ca := cnt_no (k := a) (by omega)
    have H : Hid (addV a b = (0, 1)) := by unfold addV; rw [if_pos (by omega)]; exact rfl
    go_enter Try.func31, Try.ntmps31
    go_wp2_with (go_at_call 46; refine (isCounter_any _ _).mono ?_; rintro e w' ⟨rfl, rfl⟩)
    go_ret2
    exact ⟨by rw [unhide H]; rfl, rfl⟩

end Go.Proofs.Ytpbceijlpkggpaa
