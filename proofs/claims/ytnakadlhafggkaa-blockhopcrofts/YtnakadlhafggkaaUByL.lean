/-
  Classes numbered by their least members: the places of their first numbers. In plain words, for layer 6.
-/
import Derived.Test.YtnakadlhafggkaaK2
namespace Go.Proofs.Ytnakadlhafggkaa
open Go.RowKit

/-- Same number. -/
def sqR (C : Nat → Nat) (s t : Nat) : Bool := decide (C s = C t)
/-- The numbers, each as it first comes. -/
def fsL (C : Nat → Nat) (i : Nat) : List Int := (reps (sqR C) i).map fun r => ((C r.toNat : Nat) : Int)
theorem fsL_len (C : Nat → Nat) (i : Nat) : (fsL C i).length = nc (sqR C) i := by unfold fsL; rw [List.length_map, reps_len]
theorem fsL_old {C : Nat → Nat} {i : Nat} (h : ¬ first (sqR C i) i = none) : fsL C (i + 1) = fsL C i := by
  unfold fsL
  show List.map _ (if _ then _ else _) = _
  rw [if_neg h]
theorem fsL_new {C : Nat → Nat} {i : Nat} (h : first (sqR C i) i = none) : fsL C (i + 1) = fsL C i ++ [((C i : Nat) : Int)] := by
  unfold fsL
  show List.map _ (if _ then _ else _) = _
  rw [if_pos h, List.map_append]
  simp
theorem fsL_mem {C : Nat → Nat} {x : Int} : ∀ {i : Nat}, x ∈ fsL C i → ∃ r, r < i ∧ x = ((C r : Nat) : Int)
  | 0, h => by simp [fsL, reps] at h
  | i + 1, h => by
    by_cases c : first (sqR C i) i = none
    · rw [fsL_new c, List.mem_append] at h
      rcases h with h | h
      · obtain ⟨r, hr, e⟩ := fsL_mem h
        exact ⟨r, by omega, e⟩
      · exact ⟨i, by omega, by simpa using h⟩
    · rw [fsL_old c] at h
      obtain ⟨r, hr, e⟩ := fsL_mem h
      exact ⟨r, by omega, e⟩
theorem fst_false {p : Nat → Bool} : ∀ {n : Nat}, first p n = none → ∀ j, j < n → p j = false
  | 0, _, j, hj => by omega
  | n + 1, h, j, hj => by
    unfold first at h
    cases e : first p n with
    | some i => rw [e] at h; simp at h
    | none =>
      rw [e] at h
      by_cases c : p n = true
      · simp [c] at h
      · by_cases d : j = n
        · subst d; simpa using c
        · exact fst_false e j (by omega)
theorem fst_some {p : Nat → Bool} : ∀ {n t : Nat}, first p n = some t → t < n ∧ p t = true
  | 0, t, h => by simp [first] at h
  | n + 1, t, h => by
    unfold first at h
    cases e : first p n with
    | some i =>
      rw [e] at h
      have : i = t := by simpa using h
      subst this
      have := fst_some e
      exact ⟨by omega, this.2⟩
    | none =>
      rw [e] at h
      by_cases c : p n = true
      · have : n = t := by simpa [c] using h
        subst this
        exact ⟨by omega, c⟩
      · simp [c] at h
theorem fsL_no {C : Nat → Nat} {i : Nat} (h : first (sqR C i) i = none) : ((C i : Nat) : Int) ∉ fsL C i := fun hm => by
  obtain ⟨r, hr, e⟩ := fsL_mem hm
  have := fst_false h r hr
  unfold sqR at this
  have e2 : C i = C r := by omega
  simp [e2] at this
/-- The place of a number among the first ones is its class. -/
theorem fsL_at {C : Nat → Nat} : ∀ {i s : Nat}, s < i → ((C s : Nat) : Int) ∈ fsL C i ∧ (((fsL C i).idxOf ((C s : Nat) : Int) : Nat) : Int) = cl (sqR C) s
  | 0, s, h => by omega
  | i + 1, s, h => by
    by_cases c : first (sqR C i) i = none
    · rw [fsL_new c]
      by_cases d : s = i
      · subst d
        refine ⟨by simp, ?_⟩
        rw [List.idxOf_append, if_neg (fsL_no c), cl_none c, fsL_len]
        simp
      · obtain ⟨h1, h2⟩ := fsL_at (i := i) (s := s) (by omega)
        refine ⟨List.mem_append_left _ h1, ?_⟩
        rw [List.idxOf_append, if_pos h1]; exact h2
    · rw [fsL_old c]
      by_cases d : s = i
      · subst d
        cases e : first (sqR C s) s with
        | none => exact absurd e c
        | some t =>
          obtain ⟨ht, hp⟩ := fst_some e
          have e2 : C s = C t := by unfold sqR at hp; simpa using hp
          have := fsL_at (C := C) (i := s) ht
          rw [e2, cl_some e ht]; exact this
      · exact fsL_at (by omega)
theorem fsL_is {C : Nat → Nat} {i : Nat} (h : ¬ first (sqR C i) i = none) : ((C i : Nat) : Int) ∈ fsL C i := by
  have := (fsL_at (C := C) (i := i + 1) (s := i) (by omega)).1
  rwa [fsL_old h] at this
end Go.Proofs.Ytnakadlhafggkaa
