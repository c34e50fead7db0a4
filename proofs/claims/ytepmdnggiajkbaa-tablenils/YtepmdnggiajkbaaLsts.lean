/-
  Lists says yes of two slices of lists that read alike.
-/
import Derived.Test.YtepmdnggiajkbaaK1
namespace Go.Proofs.Ytepmdnggiajkbaa
open Go.RowKit

/-- Same, with nothing but draws left behind. -/
theorem same_q (a a' : Option Addr) (n c c' : Nat) (f : Nat → Int) (w : World) (hr : Rd w a n f) (hr' : Rd w a' n f) (hn : n ≤ maxLen) :
    Calls Try.prog 37 #[.slice a n c, .slice a' n c'] w fun e w' => e = .returned (.bool true) ∧ ∃ m, w' = w.drewN m := by
  unfold maxLen at hn
  have hne : ((n : Int) != (n : Int)) = false := by simp
  go_enter Try.func37, Try.ntmps37
  go_wp2
  go_loopw [5] (fun i wr => ∃ j q : Nat, j ≤ n ∧ i = .int .i64 j ∧ wr = w.drewN q) (fun i _ => n - (intOf i).toNat)
  case atStart => exact ⟨0, 0, Nat.zero_le _, rfl, rfl⟩
  case round =>
    obtain ⟨j, q, hj, rfl, rfl⟩ := hrel
    by_cases hlt : j < n
    · obtain ⟨b, off, rfl, hc⟩ := hr.at hlt
      obtain ⟨b', off', rfl, hc'⟩ := hr'.at hlt
      have hcj := hc j hlt
      have hcj' := hc' j hlt
      have hlt' : (j : Int) < (n : Int) := by omega
      have ht : (f j != f j) = false := by simp
      clear hc hc'
      go_wp2
      go_quiet (fail)
      go_wp2
      go_roundw
      case rel => exact ⟨j + 1, q + nq, by omega, by go_num, by simp⟩
      case measure => simp [intOf]; omega
    · have he : j = n := by omega
      subst he
      go_wp2
      go_ret
      exact ⟨rfl, q, rfl⟩

theorem quiet_of_draws {P : Program} {f : FuncId} {args : Array Value} {w : World} {n : Nat} {v : Value} (h : Calls P f args (w.drewN n) fun e w' => e = .returned v ∧ ∃ m, w' = (w.drewN n).drewN m) :
    Calls P f args (w.drewN n) fun e w'' => e = .returned v ∧ ∃ m, w'' = w.drewN m :=
  h.mono fun _ _ ⟨he, m, hm⟩ => ⟨he, n + m, by rw [hm]; simp⟩

theorem Rd.draws {w : World} {a : Option Addr} {n : Nat} {f : Nat → Int} (h : Rd w a n f) (q : Nat) : Rd (w.drewN q) a n f := h

end Go.Proofs.Ytepmdnggiajkbaa
