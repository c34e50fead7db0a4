/-
  Numbers in classes that are split by a list: in plain words, for layer 6.
-/
import Derived.Test.YtnakadlhafggkaaK2
namespace Go.Proofs.Ytnakadlhafggkaa
open Go.RowKit

/-- Is i in the list? -/
def inB (l : List Int) (i : Nat) : Bool := decide ((i : Int) ∈ l)
/-- Class c has both numbers in l and others. -/
def mixB (C l : List Int) (c : Int) : Bool := (List.range C.length).any (fun i => C.getD i 0 == c && inB l i) && (List.range C.length).any (fun i => C.getD i 0 == c && !inB l i)
/-- How many of the classes below c have. -/
def mixN (C l : List Int) : Nat → Nat
  | 0 => 0
  | c + 1 => mixN C l c + if mixB C l (c : Int) = true then 1 else 0
/-- The number of i's class when the classes below c are split. -/
def spTo (C l : List Int) (N c i : Nat) : Int := if mixB C l (C.getD i 0) = true ∧ inB l i = true ∧ C.getD i 0 < (c : Int) then ((N + mixN C l (C.getD i 0).toNat : Nat) : Int) else C.getD i 0
def spC (C l : List Int) (N c : Nat) : List Int := (List.range C.length).map (spTo C l N c)
/-- The new classes, when those below c are split. -/
def spM (C l : List Int) (N c : Nat) : List Int := (List.range (mixN C l c)).map fun j : Nat => ((N + j : Nat) : Int)
/-- Each number is in a class, each class has a number. -/
structure PartI (C : List Int) (N : Nat) : Prop where
  rng : ∀ i, i < C.length → 0 ≤ C.getD i 0 ∧ C.getD i 0 < (N : Int)
  mem : ∀ c, c < N → ∃ i, i < C.length ∧ C.getD i 0 = (c : Int)

theorem mix_iff {C l : List Int} {c : Int} : mixB C l c = true ↔ (∃ i, i < C.length ∧ C.getD i 0 = c ∧ inB l i = true) ∧ ∃ i, i < C.length ∧ C.getD i 0 = c ∧ inB l i = false := by
  unfold mixB
  rw [Bool.and_eq_true, List.any_eq_true, List.any_eq_true]
  constructor
  · rintro ⟨⟨i, hi, h⟩, ⟨j, hj, g⟩⟩
    rw [List.mem_range] at hi hj
    rw [Bool.and_eq_true, beq_iff_eq] at h g
    exact ⟨⟨i, hi, h⟩, ⟨j, hj, g.1, by simpa using g.2⟩⟩
  · rintro ⟨⟨i, hi, h⟩, ⟨j, hj, g⟩⟩
    exact ⟨⟨i, List.mem_range.2 hi, by rw [Bool.and_eq_true, beq_iff_eq]; exact h⟩, ⟨j, List.mem_range.2 hj, by rw [Bool.and_eq_true, beq_iff_eq]; exact ⟨g.1, by simpa using g.2⟩⟩⟩
theorem mixN_yes {C l : List Int} {c : Nat} (h : mixB C l (c : Int) = true) : mixN C l (c + 1) = mixN C l c + 1 := by show mixN C l c + _ = _; rw [if_pos h]
theorem mixN_no {C l : List Int} {c : Nat} (h : mixB C l (c : Int) = false) : mixN C l (c + 1) = mixN C l c := by show mixN C l c + _ = _; rw [if_neg (by rw [h]; simp)]; rfl
theorem mixN_mono (C l : List Int) : ∀ {a b : Nat}, a ≤ b → mixN C l a ≤ mixN C l b
  | a, 0, h => by have : a = 0 := by omega
                  subst this; exact Nat.le_refl _
  | a, b + 1, h => by
    by_cases e : a = b + 1
    · subst e; exact Nat.le_refl _
    · exact Nat.le_trans (mixN_mono C l (by omega)) (Nat.le_add_right _ _)
theorem mixN_le (C l : List Int) : ∀ c, mixN C l c ≤ c
  | 0 => Nat.le_refl _
  | c + 1 => by
    have := mixN_le C l c
    show mixN C l c + _ ≤ _
    split <;> omega
theorem mixN_lt {C l : List Int} {a b : Nat} (h : mixB C l (a : Int) = true) (hab : a < b) : mixN C l a < mixN C l b := by
  have := mixN_mono C l (a := a + 1) (b := b) (by omega)
  rw [mixN_yes h] at this
  omega
theorem mixN_inj {C l : List Int} {a b : Nat} (ha : mixB C l (a : Int) = true) (hb : mixB C l (b : Int) = true) (e : mixN C l a = mixN C l b) : a = b := by
  rcases Nat.lt_trichotomy a b with h | h | h
  · have := mixN_lt ha h; omega
  · exact h
  · have := mixN_lt hb h; omega
theorem mixN_at {C l : List Int} : ∀ {N j : Nat}, j < mixN C l N → ∃ c, c < N ∧ mixB C l (c : Int) = true ∧ mixN C l c = j
  | 0, j, h => by cases h
  | N + 1, j, h => by
    cases e : mixB C l (N : Int)
    · rw [mixN_no e] at h
      obtain ⟨c, hc, h1⟩ := mixN_at h
      exact ⟨c, by omega, h1⟩
    · rw [mixN_yes e] at h
      by_cases c : j = mixN C l N
      · exact ⟨N, by omega, e, c.symm⟩
      · obtain ⟨c, hc, h1⟩ := mixN_at (C := C) (l := l) (N := N) (j := j) (by omega)
        exact ⟨c, by omega, h1⟩
theorem spC_len (C l : List Int) (N c : Nat) : (spC C l N c).length = C.length := by simp [spC]
theorem spC_at {C l : List Int} {N c i : Nat} (h : i < C.length) : (spC C l N c).getD i 0 = spTo C l N c i := by simp [spC, List.getD, h]
theorem spM_len (C l : List Int) (N c : Nat) : (spM C l N c).length = mixN C l c := by simp [spM]
theorem spM_yes {C l : List Int} {N c : Nat} (h : mixB C l (c : Int) = true) : spM C l N (c + 1) = spM C l N c ++ [((N + mixN C l c : Nat) : Int)] := by unfold spM; rw [mixN_yes h, List.range_succ, List.map_append]; rfl
theorem spM_no {C l : List Int} {N c : Nat} (h : mixB C l (c : Int) = false) : spM C l N (c + 1) = spM C l N c := by unfold spM; rw [mixN_no h]
theorem spTo_zero {C l : List Int} {N i : Nat} (h : 0 ≤ C.getD i 0) : spTo C l N 0 i = C.getD i 0 := by unfold spTo; rw [if_neg (by omega)]
theorem spTo_no {C l : List Int} {N c i : Nat} (h : mixB C l (c : Int) = false) : spTo C l N (c + 1) i = spTo C l N c i := by
  unfold spTo
  by_cases e : C.getD i 0 = (c : Int)
  · rw [e, h]; simp
  · have : C.getD i 0 < ((c + 1 : Nat) : Int) ↔ C.getD i 0 < (c : Int) := by omega
    simp only [this]
theorem spTo_yes {C l : List Int} {N c i : Nat} (h : mixB C l (c : Int) = true) : spTo C l N (c + 1) i = if C.getD i 0 = (c : Int) ∧ inB l i = true then ((N + mixN C l c : Nat) : Int) else spTo C l N c i := by
  unfold spTo
  by_cases e : C.getD i 0 = (c : Int)
  · rw [e, h, Int.toNat_natCast]
    by_cases g : inB l i = true
    · rw [if_pos ⟨rfl, g, by omega⟩, if_pos ⟨rfl, g⟩]
    · rw [if_neg (fun x => g x.2.1), if_neg (fun x => g x.2), if_neg (fun x => g x.2.1)]
  · rw [if_neg (c := C.getD i 0 = (c : Int) ∧ _) (fun x => e x.1)]
    have : C.getD i 0 < ((c + 1 : Nat) : Int) ↔ C.getD i 0 < (c : Int) := by omega
    simp only [this]
/-- Two numbers are in one class just if they were, and both or none are in l. -/
theorem sp_iff {C l : List Int} {N : Nat} (I : PartI C N) {i k : Nat} (hi : i < C.length) (hk : k < C.length) : spTo C l N N i = spTo C l N N k ↔ C.getD i 0 = C.getD k 0 ∧ inB l i = inB l k := by
  obtain ⟨i0, i1⟩ := I.rng i hi
  obtain ⟨k0, k1⟩ := I.rng k hk
  unfold spTo
  constructor
  · intro e
    by_cases a : mixB C l (C.getD i 0) = true ∧ inB l i = true ∧ C.getD i 0 < (N : Int)
    · rw [if_pos a] at e
      by_cases b : mixB C l (C.getD k 0) = true ∧ inB l k = true ∧ C.getD k 0 < (N : Int)
      · rw [if_pos b] at e
        have := mixN_inj (C := C) (l := l) (a := (C.getD i 0).toNat) (b := (C.getD k 0).toNat) (by rw [Int.toNat_of_nonneg i0]; exact a.1) (by rw [Int.toNat_of_nonneg k0]; exact b.1) (by omega)
        exact ⟨by omega, by rw [a.2.1, b.2.1]⟩
      · rw [if_neg b] at e; omega
    · rw [if_neg a] at e
      by_cases b : mixB C l (C.getD k 0) = true ∧ inB l k = true ∧ C.getD k 0 < (N : Int)
      · rw [if_pos b] at e; omega
      · rw [if_neg b] at e
        refine ⟨e, ?_⟩
        cases hm : mixB C l (C.getD i 0)
        · cases ha : inB l i
          · cases hb : inB l k
            · rfl
            · rw [mix_iff.2 ⟨⟨k, hk, e.symm, hb⟩, ⟨i, hi, rfl, ha⟩⟩] at hm; cases hm
          · cases hb : inB l k
            · rw [mix_iff.2 ⟨⟨i, hi, rfl, ha⟩, ⟨k, hk, e.symm, hb⟩⟩] at hm; cases hm
            · rfl
        · have ha : inB l i ≠ true := fun x => a ⟨hm, x, i1⟩
          have hb : inB l k ≠ true := fun x => b ⟨by rw [← e]; exact hm, x, k1⟩
          rw [Bool.eq_false_iff.2 ha, Bool.eq_false_iff.2 hb]
  · rintro ⟨e, g⟩
    rw [e, g]
/-- After the split each number is in a class, each class has a number. -/
theorem PartI.split {C : List Int} {N : Nat} (I : PartI C N) (l : List Int) : PartI (spC C l N N) (N + mixN C l N) := by
  refine ⟨fun i hi => ?_, fun c hc => ?_⟩
  · rw [spC_len] at hi
    obtain ⟨i0, i1⟩ := I.rng i hi
    rw [spC_at hi]
    unfold spTo
    split
    · rename_i a
      have := mixN_lt (C := C) (l := l) (a := (C.getD i 0).toNat) (b := N) (by rw [Int.toNat_of_nonneg i0]; exact a.1) (by omega)
      omega
    · omega
  · rw [spC_len]
    by_cases h : c < N
    · cases hm : mixB C l (c : Int)
      · obtain ⟨i, hi, e⟩ := I.mem c h
        refine ⟨i, hi, ?_⟩
        rw [spC_at hi]
        unfold spTo
        rw [e, if_neg (by rw [hm]; simp)]
      · obtain ⟨_, i, hi, e, g⟩ := mix_iff.1 hm
        refine ⟨i, hi, ?_⟩
        rw [spC_at hi]
        unfold spTo
        rw [e, if_neg (by rw [g]; simp)]
    · obtain ⟨d, hd, hm, ej⟩ := mixN_at (C := C) (l := l) (N := N) (j := c - N) (by omega)
      obtain ⟨⟨i, hi, e, g⟩, _⟩ := mix_iff.1 hm
      refine ⟨i, hi, ?_⟩
      rw [spC_at hi]
      unfold spTo
      rw [e, if_pos ⟨hm, g, by omega⟩, Int.toNat_natCast, ej]
      omega
theorem PartI.start (n : Nat) (h : 1 ≤ n) : PartI (List.replicate n 0) 1 := by
  refine ⟨fun i hi => ?_, fun c hc => ⟨0, by simp; omega, ?_⟩⟩
  · rw [List.length_replicate] at hi
    simp [List.getD, hi]
  · have : c = 0 := by omega
    subst this
    simp [List.getD, show 0 < n by omega]

end Go.Proofs.Ytnakadlhafggkaa
