/-
  Plain lists of numbers, as functions with a length: the first place where something holds, which lists are words, the order, places.
-/
import Derived.Test.YtdlcbjbcehpooaaMath
namespace Go.Proofs.Ytdlcbjbcehpooaa
open Go.RowKit

/-- The first place below n where p holds. -/
def first (p : Nat → Bool) : Nat → Option Nat
  | 0 => none
  | n + 1 => match first p n with
    | some i => some i
    | none => if p n then some n else none

theorem first_none {p : Nat → Bool} : ∀ {n}, (∀ j, j < n → p j = false) → first p n = none
  | 0, _ => rfl
  | n + 1, h => by simp [first, first_none (n := n) fun j hj => h j (by omega), h n (by omega)]
theorem first_some {p : Nat → Bool} {i : Nat} : ∀ {n}, i < n → p i = true → (∀ j, j < i → p j = false) → first p n = some i
  | 0, h, _, _ => by omega
  | n + 1, h, hp, hl => by
    by_cases e : i = n
    · subst e; simp [first, first_none hl, hp]
    · simp [first, first_some (n := n) (by omega) hp hl]
theorem first_cases (p : Nat → Bool) : ∀ n, (first p n = none ∧ ∀ j, j < n → p j = false) ∨ ∃ i, first p n = some i ∧ i < n ∧ p i = true ∧ ∀ j, j < i → p j = false
  | 0 => .inl ⟨rfl, fun j hj => by omega⟩
  | n + 1 => by
    rcases first_cases p n with ⟨h, hl⟩ | ⟨i, h, hi, hp, hl⟩
    · cases e : p n
      · exact .inl ⟨by simp [first, h, e], fun j hj => by by_cases e2 : j = n; { subst e2; exact e }; exact hl j (by omega)⟩
      · exact .inr ⟨n, by simp [first, h, e], by omega, e, hl⟩
    · exact .inr ⟨i, by simp [first, h], by omega, hp, hl⟩
theorem first_congr {p q : Nat → Bool} : ∀ {n}, (∀ j, j < n → p j = q j) → first p n = first q n
  | 0, _ => rfl
  | n + 1, h => by simp [first, first_congr (n := n) fun j hj => h j (by omega), h n (by omega)]

def badB (f : Nat → Int) (k : Int) (i : Nat) : Bool := decide (f i < 0 ∨ k ≤ f i)
theorem bad_yes {f : Nat → Int} {k : Int} {i : Nat} (h : f i < 0 ∨ k ≤ f i) : badB f k i = true := by simp [badB, h]
theorem bad_no {f : Nat → Int} {k : Int} {i : Nat} (h : 0 ≤ f i) (h2 : f i < k) : badB f k i = false := by simp [badB]; omega
theorem bad_not {f : Nat → Int} {k : Int} {i : Nat} (h : badB f k i = false) : 0 ≤ f i ∧ f i < k := by simp [badB] at h; omega

/-- Check, as the document has it: the place and the error. -/
def chkV (n : Nat) (f : Nat → Int) (k : Int) : Int × Int :=
  if k < 1 ∨ 64 < k then (0, 1) else if 4096 < n then (0, 2) else match first (badB f k) n with
    | some i => (i, 10)
    | none => (0, 0)
theorem chkV_arg {n : Nat} {f : Nat → Int} {k : Int} (h : k < 1 ∨ 64 < k) : chkV n f k = (0, 1) := by unfold chkV; rw [if_pos h]
theorem chkV_long {n : Nat} {f : Nat → Int} {k : Int} (h1 : 1 ≤ k) (h2 : k ≤ 64) (h : 4096 < n) : chkV n f k = (0, 2) := by unfold chkV; rw [if_neg (by omega), if_pos h]
theorem chkV_sym {n i : Nat} {f : Nat → Int} {k : Int} (h1 : 1 ≤ k) (h2 : k ≤ 64) (h : n ≤ 4096) (hi : i < n) (hb : badB f k i = true) (hl : ∀ j, j < i → badB f k j = false) : chkV n f k = ((i : Int), 10) := by
  unfold chkV; rw [if_neg (by omega), if_neg (by omega), first_some hi hb hl]
theorem chkV_ok {n : Nat} {f : Nat → Int} {k : Int} (h1 : 1 ≤ k) (h2 : k ≤ 64) (h : n ≤ 4096) (hl : ∀ j, j < n → badB f k j = false) : chkV n f k = (0, 0) := by
  unfold chkV; rw [if_neg (by omega), if_neg (by omega), first_none hl]
theorem chkV_congr {n : Nat} {f g : Nat → Int} {k : Int} (h : ∀ i, i < n → f i = g i) : chkV n f k = chkV n g k := by
  unfold chkV; rw [first_congr (q := badB g k) fun j hj => by simp [badB, h j hj]]
/-- A word: Check finds nothing. -/
def IsWord (n : Nat) (f : Nat → Int) (k : Int) : Prop := 1 ≤ k ∧ k ≤ 64 ∧ n ≤ 4096 ∧ ∀ i, i < n → 0 ≤ f i ∧ f i < k
theorem chkV_word {n : Nat} {f : Nat → Int} {k : Int} (h : IsWord n f k) : chkV n f k = (0, 0) :=
  chkV_ok h.1 h.2.1 h.2.2.1 fun j hj => bad_no (h.2.2.2 j hj).1 (h.2.2.2 j hj).2
theorem chkV_cases (n : Nat) (f : Nat → Int) (k : Int) : IsWord n f k ∨ ((chkV n f k).2 ≠ 0 ∧ 0 ≤ (chkV n f k).2 ∧ (chkV n f k).2 ≤ 10) := by
  by_cases hk : k < 1 ∨ 64 < k
  · exact .inr (by rw [chkV_arg hk]; simp)
  · by_cases hn : 4096 < n
    · exact .inr (by rw [chkV_long (by omega) (by omega) hn]; simp)
    · rcases first_cases (badB f k) n with ⟨_, hl⟩ | ⟨i, _, hi, hp, hl⟩
      · exact .inl ⟨by omega, by omega, by omega, fun i hi => bad_not (hl i hi)⟩
      · exact .inr (by rw [chkV_sym (by omega) (by omega) (by omega) hi hp hl]; simp)
theorem word_of_chk {n : Nat} {f : Nat → Int} {k : Int} (h : (chkV n f k).2 = 0) : IsWord n f k := by
  rcases chkV_cases n f k with h1 | h1
  · exact h1
  · exact absurd h h1.1

def cmp (a b : Int) : Int := if a < b then -1 else if b < a then 1 else 0
theorem cmp_lt {a b : Int} (h : a < b) : cmp a b = -1 := by unfold cmp; rw [if_pos h]
theorem cmp_gt {a b : Int} (h : b < a) : cmp a b = 1 := by unfold cmp; rw [if_neg (by omega), if_pos h]
theorem cmp_eq {a b : Int} (h : a = b) : cmp a b = 0 := by unfold cmp; rw [if_neg (by omega), if_neg (by omega)]

def neB (f g : Nat → Int) (i : Nat) : Bool := f i != g i
/-- Compare, as the document has it. -/
def cmpV (n : Nat) (f : Nat → Int) (m : Nat) (g : Nat → Int) : Int :=
  if n ≠ m then cmp n m else match first (neB f g) n with
    | some i => cmp (f i) (g i)
    | none => 0
def ahdV (n : Nat) (f : Nat → Int) (m : Nat) (g : Nat → Int) : Bool := decide (cmpV n f m g = -1)
theorem cmpV_len {n m : Nat} {f g : Nat → Int} (h : n ≠ m) : cmpV n f m g = cmp n m := by unfold cmpV; rw [if_pos h]
theorem cmpV_at {n i : Nat} {f g : Nat → Int} (hi : i < n) (hne : f i ≠ g i) (hl : ∀ j, j < i → f j = g j) : cmpV n f n g = cmp (f i) (g i) := by
  unfold cmpV; rw [if_neg (by omega), first_some hi (by simp [neB, hne]) fun j hj => by simp [neB, hl j hj]]
theorem cmpV_same {n : Nat} {f g : Nat → Int} (hl : ∀ j, j < n → f j = g j) : cmpV n f n g = 0 := by
  unfold cmpV; rw [if_neg (by omega), first_none fun j hj => by simp [neB, hl j hj]]
theorem cmpV_congr {n m : Nat} {f f' g g' : Nat → Int} (h : ∀ i, i < n → f i = f' i) (h' : ∀ i, i < m → g i = g' i) : cmpV n f m g = cmpV n f' m g' := by
  by_cases e : n = m
  · subst e
    unfold cmpV; rw [if_neg (by omega), if_neg (by omega)]
    rw [first_congr (q := neB f' g') fun j hj => by simp [neB, h j hj, h' j hj]]
    rcases first_cases (neB f' g') n with ⟨e, _⟩ | ⟨i, e, hi, _⟩
    · rw [e]
    · rw [e]; simp only; rw [h i hi, h' i hi]
  · rw [cmpV_len e, cmpV_len e]
/-- The three ways to stand to one another. -/
theorem cmpV_cases (n : Nat) (f : Nat → Int) (m : Nat) (g : Nat → Int) :
    (n = m ∧ ∀ j, j < n → f j = g j) ∨ (n ≠ m) ∨ (n = m ∧ ∃ i, i < n ∧ f i ≠ g i ∧ ∀ j, j < i → f j = g j) := by
  by_cases e : n = m
  · rcases first_cases (neB f g) n with ⟨_, hl⟩ | ⟨i, _, hi, hp, hl⟩
    · exact .inl ⟨e, fun j hj => by simpa [neB] using hl j hj⟩
    · exact .inr (.inr ⟨e, i, hi, by simpa [neB] using hp, fun j hj => by simpa [neB] using hl j hj⟩)
  · exact .inr (.inl e)
theorem cmpV_neg (n : Nat) (f : Nat → Int) (m : Nat) (g : Nat → Int) : cmpV m g n f = - cmpV n f m g := by
  have hc : ∀ a b : Int, cmp b a = - cmp a b := fun a b => by unfold cmp; split <;> split <;> omega
  rcases cmpV_cases n f m g with ⟨rfl, h⟩ | h | ⟨rfl, i, hi, hne, hl⟩
  · rw [cmpV_same h, cmpV_same fun j hj => (h j hj).symm]; rfl
  · rw [cmpV_len h, cmpV_len (Ne.symm h), hc]
  · rw [cmpV_at hi hne hl, cmpV_at hi (Ne.symm hne) fun j hj => (hl j hj).symm, hc]
theorem cmp_range (a b : Int) : cmp a b = -1 ∨ cmp a b = 0 ∨ cmp a b = 1 := by
  rcases Int.lt_trichotomy a b with h | h | h
  · exact .inl (cmp_lt h)
  · exact .inr (.inl (cmp_eq h))
  · exact .inr (.inr (cmp_gt h))
theorem cmpV_range (n : Nat) (f : Nat → Int) (m : Nat) (g : Nat → Int) : cmpV n f m g = -1 ∨ cmpV n f m g = 0 ∨ cmpV n f m g = 1 := by
  unfold cmpV; split
  · exact cmp_range _ _
  · split
    · exact cmp_range _ _
    · simp

def samB (n : Nat) (f : Nat → Int) (m : Nat) (g : Nat → Int) : Bool := decide (cmpV n f m g = 0)
theorem samB_yes {n : Nat} {f g : Nat → Int} (h : ∀ i, i < n → f i = g i) : samB n f n g = true := by simp [samB, cmpV_same h]
theorem cmp_ne {a b : Int} (h : a ≠ b) : cmp a b ≠ 0 := by
  rcases Int.lt_trichotomy a b with h1 | h1 | h1
  · rw [cmp_lt h1]; omega
  · exact absurd h1 h
  · rw [cmp_gt h1]; omega
theorem samB_len {n m : Nat} {f g : Nat → Int} (h : n ≠ m) : samB n f m g = false := by
  simp only [samB, cmpV_len h, decide_eq_false_iff_not]; exact cmp_ne (by omega)
theorem samB_at {n i : Nat} {f g : Nat → Int} (hi : i < n) (hne : f i ≠ g i) : samB n f n g = false := by
  rcases cmpV_cases n f n g with ⟨_, h⟩ | h | ⟨_, i, hi, hne, hl⟩
  · exact absurd (h i hi) hne
  · exact absurd rfl h
  · simp only [samB, cmpV_at hi hne hl, decide_eq_false_iff_not]; exact cmp_ne hne
theorem samB_iff {n m : Nat} {f g : Nat → Int} : samB n f m g = true ↔ n = m ∧ ∀ i, i < n → f i = g i := by
  constructor
  · intro h
    rcases cmpV_cases n f m g with h1 | h1 | ⟨rfl, i, hi, hne, _⟩
    · exact h1
    · rw [samB_len h1] at h; exact absurd h (by simp)
    · rw [samB_at hi hne] at h; exact absurd h (by simp)
  · rintro ⟨rfl, h⟩; exact samB_yes h

/-- The place of the first j numbers. -/
def rk (f : Nat → Int) (k : Int) : Nat → Int
  | 0 => 0
  | j + 1 => rk f k j * k + f j + 1
theorem rk_nn {f : Nat → Int} {k : Int} (hk : 1 ≤ k) : ∀ {n}, (∀ i, i < n → 0 ≤ f i) → 0 ≤ rk f k n
  | 0, _ => by simp [rk]
  | n + 1, h => by
    have h1 := rk_nn hk (n := n) fun i hi => h i (by omega)
    have h2 := h n (by omega)
    have h3 : 0 ≤ rk f k n * k := Int.mul_nonneg h1 (by omega)
    simp only [rk]; omega
theorem rk_step {f : Nat → Int} {k : Int} (hk : 1 ≤ k) {n : Nat} (h : ∀ i, i < n + 1 → 0 ≤ f i) : rk f k n < rk f k (n + 1) := by
  have h1 := rk_nn hk (n := n) fun i hi => h i (by omega)
  have h2 := h n (by omega)
  have h3 : rk f k n * 1 ≤ rk f k n * k := Int.mul_le_mul_of_nonneg_left hk h1
  simp only [rk]; omega
theorem rk_mono {f : Nat → Int} {k : Int} (hk : 1 ≤ k) {m n : Nat} (h : ∀ i, i < n → 0 ≤ f i) (hm : m ≤ n) : rk f k m ≤ rk f k n := by
  induction n with
  | zero => have : m = 0 := by omega
            subst this; exact Int.le_refl _
  | succ n ih =>
    by_cases e : m = n + 1
    · subst e; exact Int.le_refl _
    · have := ih (fun i hi => h i (by omega)) (by omega); have := rk_step hk h; omega
theorem rk_congr {f g : Nat → Int} {k : Int} : ∀ {n}, (∀ i, i < n → f i = g i) → rk f k n = rk g k n
  | 0, _ => rfl
  | n + 1, h => by simp only [rk]; rw [rk_congr (n := n) fun i hi => h i (by omega), h n (by omega)]

/-- Rank, as the document has it. -/
def rankV (n : Nat) (f : Nat → Int) (k : Int) : Int × Int :=
  if (chkV n f k).2 = 0 then (if 1099511627776 < rk f k n then (0, 11) else (rk f k n, 0)) else (0, (chkV n f k).2)
theorem rankV_err {n : Nat} {f : Nat → Int} {k : Int} (h : (chkV n f k).2 ≠ 0) : rankV n f k = (0, (chkV n f k).2) := by unfold rankV; rw [if_neg h]
theorem rankV_over {n j : Nat} {f : Nat → Int} {k : Int} (h : IsWord n f k) (hj : j ≤ n) (ho : 1099511627776 < rk f k j) : rankV n f k = (0, 11) := by
  unfold rankV; rw [if_pos (by rw [chkV_word h]), if_pos]
  have := rk_mono (f := f) h.1 (n := n) (fun i hi => (h.2.2.2 i hi).1) hj; omega
theorem rankV_ok {n : Nat} {f : Nat → Int} {k : Int} (h : IsWord n f k) (ho : rk f k n ≤ 1099511627776) : rankV n f k = (rk f k n, 0) := by
  unfold rankV; rw [if_pos (by rw [chkV_word h]), if_neg (by omega)]

/-- The last place below n where p holds. -/
def last (p : Nat → Bool) : Nat → Option Nat
  | 0 => none
  | n + 1 => if p n then some n else last p n
theorem last_none {p : Nat → Bool} : ∀ {n}, (∀ j, j < n → p j = false) → last p n = none
  | 0, _ => rfl
  | n + 1, h => by simp [last, last_none (n := n) fun j hj => h j (by omega), h n (by omega)]
theorem last_some {p : Nat → Bool} {i : Nat} : ∀ {n}, i < n → p i = true → (∀ j, i < j → j < n → p j = false) → last p n = some i
  | 0, h, _, _ => by omega
  | n + 1, h, hp, hl => by
    by_cases e : i = n
    · subst e; simp [last, hp]
    · simp [last, last_some (n := n) (by omega) hp fun j h1 h2 => hl j h1 (by omega), hl n (by omega) (by omega)]

/-- The next word of the same length: the place p is raised, all behind it are 0. -/
def stepF (p : Nat) (f : Nat → Int) (i : Nat) : Int := if i < p then f i else if i = p then f p + 1 else 0

def topB (f : Nat → Int) (k : Int) (i : Nat) : Bool := f i != k - 1
/-- Next, as the document has it: the length, the numbers, the error. -/
def nextV (n : Nat) (f : Nat → Int) (k : Int) : Nat × (Nat → Int) × Int :=
  if (chkV n f k).2 = 0 then match last (topB f k) n with
    | some p => (n, stepF p f, 0)
    | none => if n = 4096 then (0, fun _ => 0, 2) else (n + 1, fun _ => 0, 0)
  else (0, fun _ => 0, (chkV n f k).2)
theorem nextV_err {n : Nat} {f : Nat → Int} {k : Int} (h : (chkV n f k).2 ≠ 0) : nextV n f k = (0, fun _ => 0, (chkV n f k).2) := by unfold nextV; rw [if_neg h]
theorem nextV_step {n p : Nat} {f : Nat → Int} {k : Int} (h : IsWord n f k) (hp : p < n) (h1 : f p < k - 1) (h2 : ∀ i, p < i → i < n → f i = k - 1) : nextV n f k = (n, stepF p f, 0) := by
  unfold nextV; rw [if_pos (by rw [chkV_word h]), last_some hp (by simp [topB]; omega) fun j a b => by simp [topB, h2 j a b]]
theorem nextV_full {n : Nat} {f : Nat → Int} {k : Int} (h : IsWord n f k) (h2 : ∀ i, i < n → f i = k - 1) (hn : n = 4096) : nextV n f k = (0, fun _ => 0, 2) := by
  unfold nextV; rw [if_pos (by rw [chkV_word h]), last_none fun j a => by simp [topB, h2 j a]]; simp only; rw [if_pos hn]
theorem nextV_long {n : Nat} {f : Nat → Int} {k : Int} (h : IsWord n f k) (h2 : ∀ i, i < n → f i = k - 1) (hn : n < 4096) : nextV n f k = (n + 1, fun _ => 0, 0) := by
  unfold nextV; rw [if_pos (by rw [chkV_word h]), last_none fun j a => by simp [topB, h2 j a]]; simp only; rw [if_neg (by omega)]

theorem nextV_len (n : Nat) (f : Nat → Int) (k : Int) : (nextV n f k).1 ≤ 4096 := by
  unfold nextV
  split
  · rename_i h
    have hw := word_of_chk h
    have := hw.2.2.1
    split
    · exact this
    · split
      · exact Nat.zero_le _
      · simp only; omega
  · exact Nat.zero_le _

end Go.Proofs.Ytdlcbjbcehpooaa
