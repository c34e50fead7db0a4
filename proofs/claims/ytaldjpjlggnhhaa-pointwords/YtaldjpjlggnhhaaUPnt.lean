/-
  Searches of layer 12 in plain words: which place is asked for, what is told makes of it, when it ends, how often is asked.
-/
import Derived.Test.YtaldjpjlggnhhaaProg
namespace Go.Proofs.Ytaldjpjlggnhhaa
set_option linter.unusedVariables false

/-- A search: how, a place of which it is no, one of which it is yes, the next step, whether it was told no, how often it was told. -/
structure Sc where
  how : Nat
  low : Nat
  high : Nat
  step : Nat
  no : Bool
  asked : Nat
def Sc.new (how n : Nat) : Sc := ⟨how, 0, n, 1, false, 0⟩
def Sc.ask (s : Sc) : Option Nat :=
  if s.high = s.low + 1 then none
  else if s.how = 1 then some (s.low + 1)
  else if s.how = 3 ∧ s.no = false then (if s.high - s.low ≤ s.step then some (s.low + 1) else some (s.high - s.step))
  else some ((s.low + s.high) / 2)
/-- What is told of the place i. -/
def Sc.put (s : Sc) (i : Nat) (v : Bool) : Sc := { s with low := if v then s.low else i, high := if v then i else s.high, step := 2 * s.step, no := s.no || !v, asked := s.asked + 1 }
def Sc.tell (s : Sc) (v : Bool) : Sc := match s.ask with
  | some i => s.put i v
  | none => s
/-- How many binary digits. -/
def dgN (n : Nat) : Nat := if h : n = 0 then 0 else dgN (n / 2) + 1
decreasing_by omega
theorem dgN_zero : dgN 0 = 0 := by unfold dgN; rfl
theorem dgN_pos {n : Nat} (h : n ≠ 0) : dgN n = dgN (n / 2) + 1 := by rw [dgN]; simp [h]
theorem dgN_mono : ∀ {n m : Nat}, n ≤ m → dgN n ≤ dgN m := by
  intro n
  induction n using Nat.strongRecOn with
  | ind n ih =>
    intro m h
    by_cases h0 : n = 0
    · subst h0; rw [dgN_zero]; exact Nat.zero_le _
    · rw [dgN_pos h0, dgN_pos (show m ≠ 0 by omega)]
      have := @ih (n / 2) (by omega) (m / 2) (by omega)
      omega
theorem dgN_pow (k : Nat) : dgN (2 ^ k) = k + 1 := by
  induction k with
  | zero => rw [dgN_pos (by decide)]; simp [dgN_zero]
  | succ k ih =>
    have : 2 ^ (k + 1) = 2 * 2 ^ k := by rw [Nat.pow_succ]; omega
    have hp : 0 < 2 ^ k := Nat.pow_pos (by decide)
    rw [this, dgN_pos (by omega), show 2 * 2 ^ k / 2 = 2 ^ k by omega, ih]
theorem dgN_lt {k n : Nat} (h : n < 2 ^ k) : dgN n ≤ k := by
  induction k generalizing n with
  | zero => have : n = 0 := by simpa using h
            subst this; rw [dgN_zero]; exact Nat.le_refl _
  | succ k ih =>
    by_cases h0 : n = 0
    · subst h0; rw [dgN_zero]; exact Nat.zero_le _
    · rw [dgN_pos h0]
      have : 2 ^ (k + 1) = 2 * 2 ^ k := by rw [Nat.pow_succ]; omega
      have := ih (n := n / 2) (by omega)
      omega
theorem dgN_ge {k n : Nat} (h : 2 ^ k ≤ n) : k + 1 ≤ dgN n := by rw [← dgN_pow k]; exact dgN_mono h

/-- What holds of each search. -/
structure ScOk (n : Nat) (s : Sc) : Prop where
  lt : s.low < s.high
  le : s.high ≤ n
  st : 1 ≤ s.step
  sum : s.asked + (s.high - s.low) ≤ n
theorem ScOk.new {how n : Nat} (h : 1 ≤ n) : ScOk n (Sc.new how n) := ⟨h, Nat.le_refl _, Nat.le_refl _, by show 0 + (n - 0) ≤ n; omega⟩
theorem ScOk.mid {n : Nat} {s : Sc} (h : ScOk n s) {i : Nat} (e : s.ask = some i) : s.low < i ∧ i < s.high := by
  have h1 := h.lt
  have h2 := h.st
  unfold Sc.ask at e
  split at e
  · cases e
  · split at e
    · injection e with e; omega
    · split at e
      · split at e <;> (injection e with e; omega)
      · injection e with e; omega
theorem ScOk.put {n : Nat} {s : Sc} (h : ScOk n s) {i : Nat} (h1 : s.low < i) (h2 : i < s.high) (v : Bool) : ScOk n (s.put i v) := by
  have a := h.lt; have b := h.le; have c := h.st; have d := h.sum
  cases v
  · exact ⟨h2, b, by show 1 ≤ 2 * s.step; omega, by show s.asked + 1 + (s.high - i) ≤ n; omega⟩
  · exact ⟨h1, by show i ≤ n; omega, by show 1 ≤ 2 * s.step; omega, by show s.asked + 1 + (i - s.low) ≤ n; omega⟩
theorem Sc.ended {n : Nat} {s : Sc} (h : ScOk n s) (e : s.ask = none) : s.high = s.low + 1 := by
  unfold Sc.ask at e
  split at e
  · assumption
  · split at e
    · cases e
    · split at e
      · split at e <;> cases e
      · cases e
theorem Sc.ask_end {s : Sc} (h : s.high = s.low + 1) : s.ask = none := by unfold Sc.ask; rw [if_pos h]
/-- How often is asked at most: what was asked, and what may still be. -/
def Sc.most (n : Nat) (s : Sc) : Prop :=
  (s.how = 1 → s.asked + (s.high - s.low) ≤ n)
  ∧ (s.how = 2 → s.asked + dgN (s.high - s.low - 1) ≤ dgN (n - 1))
  ∧ (s.how = 3 → (s.no = false → s.low = 0 ∧ (s.high = 1 ∧ s.asked ≤ 2 * dgN n + 1 ∨ s.step = 2 ^ s.asked ∧ s.high + 2 ^ s.asked = n + 1))
      ∧ (s.no = true → s.asked + dgN (s.high - s.low - 1) ≤ 2 * dgN n + 1))
theorem Sc.most_new {how n : Nat} (h : 1 ≤ n) : (Sc.new how n).most n :=
  ⟨fun _ => by show 0 + (n - 0) ≤ n; omega, fun _ => by show 0 + dgN (n - 0 - 1) ≤ dgN (n - 1); simp, fun _ => ⟨fun _ => ⟨rfl, .inr ⟨rfl, by show n + 2 ^ 0 = n + 1; omega⟩⟩, fun e => by cases e⟩⟩
theorem dgN_half {d e : Nat} (h : 2 ≤ d) (he : e ≤ (d + 1) / 2) : dgN (e - 1) + 1 ≤ dgN (d - 1) := by
  rw [dgN_pos (show d - 1 ≠ 0 by omega)]
  have := dgN_mono (show e - 1 ≤ (d - 1) / 2 by omega)
  omega
theorem Sc.most_put {n : Nat} {s : Sc} (k : ScOk n s) (h : s.most n) {i : Nat} (e : s.ask = some i) (v : Bool) : (s.put i v).most n := by
  have hm := k.mid e
  obtain ⟨h1, h2⟩ := hm
  have hlt := k.lt
  have hle := k.le
  obtain ⟨m1, m2, m3⟩ := h
  refine ⟨fun q => ?_, fun q => ?_, fun q => ?_⟩
  · have := m1 q
    cases v
    · show s.asked + 1 + (s.high - i) ≤ n; omega
    · show s.asked + 1 + (i - s.low) ≤ n; omega
  · have q' : s.how = 2 := q
    have hi : i = (s.low + s.high) / 2 := by
      unfold Sc.ask at e
      rw [if_neg (by omega), if_neg (by omega), if_neg (by omega)] at e
      injection e with e; exact e.symm
    have := m2 q'
    have hd := dgN_half (d := s.high - s.low) (e := if v then i - s.low else s.high - i) (by omega) (by cases v <;> simp <;> omega)
    cases v
    · show s.asked + 1 + dgN (s.high - i - 1) ≤ _
      simp at hd; omega
    · show s.asked + 1 + dgN (i - s.low - 1) ≤ _
      simp at hd; omega
  · have q' : s.how = 3 := q
    obtain ⟨m4, m5⟩ := m3 q'
    cases hno : s.no with
    | true =>
      have hi : i = (s.low + s.high) / 2 := by
        unfold Sc.ask at e
        rw [if_neg (by omega), if_neg (by omega), if_neg (by rw [hno]; simp)] at e
        injection e with e; exact e.symm
      have := m5 hno
      have hd := dgN_half (d := s.high - s.low) (e := if v then i - s.low else s.high - i) (by omega) (by cases v <;> simp <;> omega)
      refine ⟨fun z => ?_, fun _ => ?_⟩
      · have z' : (s.no || !v) = false := z
        rw [hno] at z'; cases z'
      · cases v
        · show s.asked + 1 + dgN (s.high - i - 1) ≤ _
          simp at hd; omega
        · show s.asked + 1 + dgN (i - s.low - 1) ≤ _
          simp at hd; omega
    | false =>
      obtain ⟨l0, m6⟩ := m4 hno
      rcases m6 with m6 | ⟨m6, m7⟩
      · omega
      · have hp : 0 < 2 ^ s.asked := Nat.pow_pos (by decide)
        have hg : s.asked + 1 ≤ dgN n := dgN_ge (by omega)
        have hi : i = if s.high - s.low ≤ s.step then s.low + 1 else s.high - s.step := by
          unfold Sc.ask at e
          rw [if_neg (by omega), if_neg (by omega), if_pos ⟨q', hno⟩] at e
          split at e <;> (rename_i c; injection e with e; simp [c, e])
        refine ⟨fun z => ?_, fun z => ?_⟩
        · have z' : (s.no || !v) = false := z
          have hv : v = true := by rw [hno] at z'; simpa using z'
          subst hv
          refine ⟨l0, ?_⟩
          show i = 1 ∧ s.asked + 1 ≤ 2 * dgN n + 1 ∨ 2 * s.step = 2 ^ (s.asked + 1) ∧ i + 2 ^ (s.asked + 1) = n + 1
          by_cases c : s.high - s.low ≤ s.step
          · rw [if_pos c] at hi
            left; omega
          · rw [if_neg c] at hi
            right
            rw [Nat.pow_succ, m6]
            rw [m6] at hi c
            omega
        · have z' : (s.no || !v) = true := z
          have hv : v = false := by rw [hno] at z'; simpa using z'
          subst hv
          show s.asked + 1 + dgN (s.high - i - 1) ≤ 2 * dgN n + 1
          have hb : s.high - i - 1 < 2 ^ s.asked := by
            rw [m6] at hi
            split at hi <;> omega
          have := dgN_lt hb
          omega
theorem Sc.most_end {n : Nat} {s : Sc} (hn : 1 ≤ n) (k : ScOk n s) (h : s.most n) : (s.how = 1 → s.asked ≤ n - 1) ∧ (s.how = 2 → s.asked ≤ dgN (n - 1)) ∧ (s.how = 3 → s.asked ≤ 2 * dgN n + 1) := by
  have := k.lt
  refine ⟨fun q => by have := h.1 q; omega, fun q => by have := h.2.1 q; omega, fun q => ?_⟩
  obtain ⟨m4, m5⟩ := h.2.2 q
  cases hno : s.no with
  | true => have := m5 hno; omega
  | false =>
    rcases (m4 hno).2 with m | ⟨-, m⟩
    · exact m.2
    · have hp : 0 < 2 ^ s.asked := Nat.pow_pos (by decide)
      have := dgN_ge (k := s.asked) (n := n) (by omega)
      omega

end Go.Proofs.Ytaldjpjlggnhhaa
