/-
  Lists says yes of two slices of lists that read alike.
-/
import Derived.Test.YtaldjpjlggnhhaaK1
namespace Go.Proofs.Ytaldjpjlggnhhaa
open Go.RowKit

/-- Same, with nothing but draws left behind. -/
theorem same_q (a a' : Option Addr) (n c c' : Nat) (f : Nat → Int) (w : World) (hr : Rd w a n f) (hr' : Rd w a' n f) (hn : n ≤ maxLen) :
    Calls Try.prog 34 #[.slice a n c, .slice a' n c'] w fun e w' => e = .returned (.bool true) ∧ ∃ m, w' = w.drewN m := by
  unfold maxLen at hn
  have hne : ((n : Int) != (n : Int)) = false := by simp
  go_enter Try.func34, Try.ntmps34
  go_wp2
  go_loopw [5] (fun i wr => ∃ j q : Nat, j ≤ n ∧ i = .int .i64 j ∧ wr = w.drewN q) (fun i _ => n - (intOf i).toNat)
  case atStart => exact ⟨0, 0, Nat.zero_le _, rfl, rfl⟩
  case round =>
    obtain ⟨j, q, hj, rfl, rfl⟩ := hrel
    by_cases hlt : j < n
    · obtain ⟨b, off, rfl, hc⟩ := hr.at hlt
      obtain ⟨b', off', rfl, hc'⟩ := hr'.at hlt
      have hcj := hc j hlt
      have hcj' := hc' j hlt
      have hlt' : (j : Int) < (n : Int) := by omega
      have ht : (f j != f j) = false := by simp
      clear hc hc'
      go_wp2
      go_quiet (fail)
      go_wp2
      go_roundw
      case rel => exact ⟨j + 1, q + nq, by omega, by go_num, by simp⟩
      case measure => simp [intOf]; omega
    · have he : j = n := by omega
      subst he
      go_wp2
      go_ret
      exact ⟨rfl, q, rfl⟩

theorem quiet_of_draws {P : Program} {f : FuncId} {args : Array Value} {w : World} {n : Nat} {v : Value} (h : Calls P f args (w.drewN n) fun e w' => e = .returned v ∧ ∃ m, w' = (w.drewN n).drewN m) :
    Calls P f args (w.drewN n) fun e w'' => e = .returned v ∧ ∃ m, w'' = w.drewN m :=
  h.mono fun _ _ ⟨he, m, hm⟩ => ⟨he, n + m, by rw [hm]; simp⟩

theorem Rd.draws {w : World} {a : Option Addr} {n : Nat} {f : Nat → Int} (h : Rd w a n f) (q : Nat) : Rd (w.drewN q) a n f := h

theorem lists_any (a a' : Option Addr) (N c c' : Nat) (vs vs' : Nat → Value) (ns : Nat → Nat) (fs : Nat → Nat → Int) (w : World) (hr : RdV w a N vs) (hr' : RdV w a' N vs') (hN : N ≤ maxLen)
    (hvs : ∀ i, i < N → ∃ ai ci bi di, vs i = .slice ai (ns i) ci ∧ Rd w ai (ns i) (fs i) ∧ vs' i = .slice bi (ns i) di ∧ Rd w bi (ns i) (fs i) ∧ ns i ≤ maxLen) :
    Calls Try.prog 23 #[.slice a N c, .slice a' N c'] w fun e w' => e = .returned (.bool true) ∧ Below w.heap.size w w' := by
  unfold maxLen at hN
  have HV := hide hvs
  clear hvs
  have hne : ((N : Int) != (N : Int)) = false := by simp
  go_enter Try.func23, Try.ntmps23
  go_wp2
  go_loopw [5] (fun i wr => ∃ j : Nat, j ≤ N ∧ i = .int .i64 j ∧ Below w.heap.size w wr) (fun i _ => N - (intOf i).toNat)
  case atStart => exact ⟨0, Nat.zero_le _, rfl, Below.refl _ _⟩
  case round =>
    obtain ⟨j, hj, rfl, hb⟩ := hrel
    by_cases hlt : j < N
    · obtain ⟨b, off, rfl, hc⟩ := (hr.below hb).at hlt
      obtain ⟨b', off', rfl, hc'⟩ := (hr'.below hb).at hlt
      obtain ⟨ai, ci, bi, di, e1, r1, e2, r2, hm⟩ := unhide HV j hlt
      have hcj := hc j hlt
      have hcj' := hc' j hlt
      rw [e1] at hcj
      rw [e2] at hcj'
      have hlt' : (j : Int) < (N : Int) := by omega
      have r1' := r1.below hb
      have r2' := r2.below hb
      clear hc hc' e1 e2 r1 r2
      go_wp2
      go_quiet ((go_at_call 34; exact quiet_of_draws (same_q ai bi (ns j) ci di (fs j) _ (r1'.draws _) (r2'.draws _) hm)))
      go_wp2
      go_roundw
      case rel => exact ⟨j + 1, by omega, by go_num, below_drewN hb _⟩
      case measure => simp [intOf]; omega
    · have he : j = N := by omega
      subst he
      go_wp2
      go_ret
      exact ⟨rfl, hb⟩

end Go.Proofs.Ytaldjpjlggnhhaa
