/-
  What much says: more than is asked.
-/
import Derived.Test.YtnakadlhafggkaaK1
namespace Go.Proofs.Ytnakadlhafggkaa
open Go.RowKit

/-- More than is asked: of n, of m lists with ln i numbers each. -/
def muchV (n : Int) (m : Nat) (ln : Nat → Nat) : Bool := decide ((200 < n ∧ n ≤ 65536) ∨ 60 < m ∨ ∃ i, i < m ∧ 400 < ln i)
theorem much_yes {n : Int} {m : Nat} {ln : Nat → Nat} (h : (200 < n ∧ n ≤ 65536) ∨ 60 < m ∨ ∃ i, i < m ∧ 400 < ln i) : muchV n m ln = true := decide_eq_true h
theorem much_no {n : Int} {m : Nat} {ln : Nat → Nat} (h : muchV n m ln = false) : (n ≤ 200 ∨ 65536 < n) ∧ m ≤ 60 ∧ ∀ i, i < m → ln i ≤ 400 := by
  have h := of_decide_eq_false h
  refine ⟨?_, ?_, fun i hi => ?_⟩
  · rcases Int.lt_or_le 200 n with c | c
    · rcases Int.lt_or_le 65536 n with d | d
      · exact .inr d
      · exact absurd (.inl ⟨c, d⟩) h
    · exact .inl c
  · rcases Nat.lt_or_ge 60 m with c | c
    · exact absurd (.inr (.inl c)) h
    · exact c
  · rcases Nat.lt_or_ge 400 (ln i) with c | c
    · exact absurd (.inr (.inr ⟨i, hi, c⟩)) h
    · exact c
set_option maxHeartbeats 1000000 in
theorem much_any (n : Int) (a : Option Addr) (c m : Nat) (vs : Nat → Value) (ln : Nat → Nat) (w : World) (hr : RdV w a m vs) (hv : ∀ i, i < m → ∃ ad cp, vs i = .slice ad (ln i) cp) :
    Calls Try.prog 8 #[.int .i64 n, .slice a m c] w fun e w' => e = .returned (.bool (muchV n m ln)) ∧ w' = w := by
  by_cases h1 : 200 < n ∧ n ≤ 65536
  · have H := hide (much_yes (m := m) (ln := ln) (.inl h1))
    obtain ⟨h1, h2⟩ := h1
    go_enter Try.func8, Try.ntmps8
    go_wp2
    go_ret
    exact ⟨ret_bool (unhide H).symm, rfl⟩
  by_cases h60 : 60 < m
  · have H := hide (much_yes (n := n) (ln := ln) (.inr (.inl h60)))
    rcases (show ¬ 200 < n ∨ (200 < n ∧ 65536 < n) by omega) with g | ⟨g, g2⟩
    · go_enter Try.func8, Try.ntmps8
      go_wp2
      go_ret
      exact ⟨ret_bool (unhide H).symm, rfl⟩
    · go_enter Try.func8, Try.ntmps8
      go_wp2
      go_ret
      exact ⟨ret_bool (unhide H).symm, rfl⟩
  have H1 := hide h1
  have HV := hide hv
  clear hv
  rcases (show ¬ 200 < n ∨ (200 < n ∧ 65536 < n) by omega) with g | ⟨g, g2⟩
  · clear h1
    go_enter Try.func8, Try.ntmps8
    go_wp2
    go_loop [5] (fun i => ∃ j : Nat, j ≤ m ∧ i = .int .i64 j ∧ ∀ i, i < j → ln i ≤ 400) (fun i => m - (intOf i).toNat)
    case atStart => exact ⟨0, Nat.zero_le _, rfl, fun i hi => by omega⟩
    case round =>
      obtain ⟨j, hj, rfl, hg⟩ := hrel
      have HG := hide hg
      clear hg
      by_cases hlt : j < m
      · obtain ⟨b, off, rfl, hc⟩ := hr.at hlt
        have hcj := hc j hlt
        obtain ⟨ad, cp, e⟩ := unhide HV j hlt
        rw [e] at hcj
        clear hc e
        by_cases h4 : 400 < ln j
        · have H := hide (much_yes (n := n) (.inr (.inr ⟨j, hlt, h4⟩)))
          go_wp2
          go_ret
          exact ⟨ret_bool (unhide H).symm, rfl⟩
        · have h4' : ((ln j : Nat) : Int) ≤ 400 := by omega
          go_wp2
          go_round
          case rel => exact ⟨j + 1, by omega, by go_num, fun i hi => by by_cases e : i = j; { subst e; omega }; exact unhide HG i (by omega)⟩
          case measure => simp [intOf]; omega
      · have H : Hid (muchV n m ln = false) := decide_eq_false (by rintro (h | h | ⟨i, hi, h⟩); { exact unhide H1 h }; { omega }; { have := unhide HG i (by omega); omega })
        go_wp2
        go_ret
        exact ⟨ret_bool (unhide H).symm, rfl⟩
  · clear h1
    go_enter Try.func8, Try.ntmps8
    go_wp2
    go_loop [5] (fun i => ∃ j : Nat, j ≤ m ∧ i = .int .i64 j ∧ ∀ i, i < j → ln i ≤ 400) (fun i => m - (intOf i).toNat)
    case atStart => exact ⟨0, Nat.zero_le _, rfl, fun i hi => by omega⟩
    case round =>
      obtain ⟨j, hj, rfl, hg⟩ := hrel
      have HG := hide hg
      clear hg
      by_cases hlt : j < m
      · obtain ⟨b, off, rfl, hc⟩ := hr.at hlt
        have hcj := hc j hlt
        obtain ⟨ad, cp, e⟩ := unhide HV j hlt
        rw [e] at hcj
        clear hc e
        by_cases h4 : 400 < ln j
        · have H := hide (much_yes (n := n) (.inr (.inr ⟨j, hlt, h4⟩)))
          go_wp2
          go_ret
          exact ⟨ret_bool (unhide H).symm, rfl⟩
        · have h4' : ((ln j : Nat) : Int) ≤ 400 := by omega
          go_wp2
          go_round
          case rel => exact ⟨j + 1, by omega, by go_num, fun i hi => by by_cases e : i = j; { subst e; omega }; exact unhide HG i (by omega)⟩
          case measure => simp [intOf]; omega
      · have H : Hid (muchV n m ln = false) := decide_eq_false (by rintro (h | h | ⟨i, hi, h⟩); { exact unhide H1 h }; { omega }; { have := unhide HG i (by omega); omega })
        go_wp2
        go_ret
        exact ⟨ret_bool (unhide H).symm, rfl⟩
end Go.Proofs.Ytnakadlhafggkaa
