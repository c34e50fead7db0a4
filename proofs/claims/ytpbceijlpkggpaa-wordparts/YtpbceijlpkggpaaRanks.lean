/-
  Plain words: the place of a word tells the word, the order is the order of places, the next word has the next place.
-/
import Derived.Test.YtpbceijlpkggpaaLists
namespace Go.Proofs.Ytpbceijlpkggpaa
open Go.RowKit

/-- Numbers from 0 to k - 1. -/
def Dig (n : Nat) (f : Nat → Int) (k : Int) : Prop := ∀ i, i < n → 0 ≤ f i ∧ f i < k
theorem Dig.mono {n m : Nat} {f : Nat → Int} {k : Int} (h : Dig n f k) (hm : m ≤ n) : Dig m f k := fun i hi => h i (by omega)

theorem geo0_mul {k : Int} : ∀ j, geo0 k (j + 1) = geo0 k j * k + 1
  | 0 => by simp [geo0, geo]
  | _ + 1 => rfl
theorem geo0_mono {k : Int} (hk : 1 ≤ k) {m n : Nat} (h : m ≤ n) : geo0 k m ≤ geo0 k n := by
  induction n with
  | zero => have : m = 0 := by omega
            subst this; exact Int.le_refl _
  | succ n ih =>
    by_cases e : m = n + 1
    · subst e; exact Int.le_refl _
    · have := ih (by omega); have := geo0_step hk n; have := pow_pos' hk n; omega

theorem pow_mono {k : Int} (hk : 1 ≤ k) {m n : Nat} (h : m ≤ n) : k ^ m ≤ k ^ n := by
  obtain ⟨d, rfl⟩ : ∃ d, n = m + d := ⟨n - m, by omega⟩
  have h1 := pow_pos' hk d
  have h2 := pow_pos' hk m
  have h3 : k ^ m * 1 ≤ k ^ m * k ^ d := Int.mul_le_mul_of_nonneg_left h1 (by omega)
  rw [Int.pow_add]; omega
theorem geo0_one : ∀ n : Nat, geo0 1 n = n
  | 0 => rfl
  | n + 1 => by rw [geo0_mul, geo0_one n]; omega
theorem geo0_two {k : Int} (hk : 2 ≤ k) : ∀ j, (2 : Int) ^ j ≤ geo0 k j + 1
  | 0 => by simp [geo0]
  | j + 1 => by
    have h1 := geo0_two hk j
    have h2 := geo0_nn (k := k) (by omega) j
    have h3 : geo0 k j * 2 ≤ geo0 k j * k := Int.mul_le_mul_of_nonneg_left hk h2
    rw [geo0_mul, Int.pow_succ]; omega
theorem rk_lo {f : Nat → Int} {k : Int} (hk : 1 ≤ k) : ∀ {n}, Dig n f k → geo0 k n ≤ rk f k n
  | 0, _ => by simp [geo0, rk]
  | n + 1, h => by
    have h1 := rk_lo hk (n := n) (h.mono (by omega))
    have h2 := (h n (by omega)).1
    have h3 : geo0 k n * k ≤ rk f k n * k := Int.mul_le_mul_of_nonneg_right h1 (by omega)
    rw [geo0_mul]; simp only [rk]; omega
theorem rk_hi {f : Nat → Int} {k : Int} (hk : 1 ≤ k) : ∀ {n}, Dig n f k → rk f k n < geo0 k (n + 1)
  | 0, _ => by simp [geo0, rk, geo]
  | n + 1, h => by
    have h1 := rk_hi hk (n := n) (h.mono (by omega))
    have h2 := (h n (by omega)).2
    have h3 : rk f k n * k ≤ (geo0 k (n + 1) - 1) * k := Int.mul_le_mul_of_nonneg_right (by omega) (by omega)
    have h4 := geo0_mul (k := k) (n + 1)
    rw [Int.sub_mul, Int.one_mul] at h3
    simp only [rk]; omega
theorem rk_lt_len {f g : Nat → Int} {k : Int} {n m : Nat} (hk : 1 ≤ k) (hf : Dig n f k) (hg : Dig m g k) (h : n < m) : rk f k n < rk g k m := by
  have h1 := rk_hi hk hf
  have h2 := rk_lo hk hg
  have h3 := geo0_mono (k := k) hk (show n + 1 ≤ m by omega)
  omega
theorem rk_lt_keep {f g : Nat → Int} {k : Int} (hk : 1 ≤ k) {i : Nat} (hi : rk f k i < rk g k i) : ∀ {n}, i ≤ n → Dig n f k → Dig n g k → rk f k n < rk g k n
  | 0, h, _, _ => by have : i = 0 := by omega
                     subst this; exact hi
  | n + 1, h, hf, hg => by
    by_cases e : i = n + 1
    · subst e; exact hi
    · have h1 := rk_lt_keep hk hi (n := n) (by omega) (hf.mono (by omega)) (hg.mono (by omega))
      have h2 := (hf n (by omega)).2
      have h3 := (hg n (by omega)).1
      have h4 : rk f k n * k ≤ (rk g k n - 1) * k := Int.mul_le_mul_of_nonneg_right (by omega) (by omega)
      rw [Int.sub_mul, Int.one_mul] at h4
      simp only [rk]; omega
theorem rk_lt_at {f g : Nat → Int} {k : Int} {n i : Nat} (hk : 1 ≤ k) (hf : Dig n f k) (hg : Dig n g k) (hi : i < n) (hl : ∀ j, j < i → f j = g j) (h : f i < g i) : rk f k n < rk g k n := by
  refine rk_lt_keep hk (i := i + 1) ?_ (by omega) hf hg
  simp only [rk]; rw [rk_congr hl]; omega

/-- The order is the order of places. -/
theorem cmpV_rk {f g : Nat → Int} {k : Int} {n m : Nat} (hk : 1 ≤ k) (hf : Dig n f k) (hg : Dig m g k) : cmpV n f m g = cmp (rk f k n) (rk g k m) := by
  rcases cmpV_cases n f m g with ⟨rfl, h⟩ | h | ⟨rfl, i, hi, hne, hl⟩
  · rw [cmpV_same h, cmp_eq (rk_congr h)]
  · rw [cmpV_len h]
    rcases Nat.lt_or_gt_of_ne h with h1 | h1
    · rw [cmp_lt (by omega), cmp_lt (rk_lt_len hk hf hg h1)]
    · rw [cmp_gt (by omega), cmp_gt (rk_lt_len hk hg hf h1)]
  · rw [cmpV_at hi hne hl]
    rcases Int.lt_or_gt_of_ne hne with h1 | h1
    · rw [cmp_lt h1, cmp_lt (rk_lt_at hk hf hg hi hl h1)]
    · rw [cmp_gt h1, cmp_gt (rk_lt_at hk hg hf hi (fun j hj => (hl j hj).symm) h1)]

/-- One place, one word. -/
theorem rk_one {f g : Nat → Int} {k : Int} {n m : Nat} (hk : 1 ≤ k) (hf : Dig n f k) (hg : Dig m g k) (h : rk f k n = rk g k m) : n = m ∧ ∀ i, i < n → f i = g i := by
  have h1 := cmpV_rk hk hf hg
  rw [cmp_eq h] at h1
  exact samB_iff.1 (by simp [samB, h1])

theorem dig_step {f : Nat → Int} {k : Int} {n p : Nat} (hk : 1 ≤ k) (hf : Dig n f k) (hp : p < n) (h1 : f p < k - 1) : Dig n (stepF p f) k := by
  intro i hi
  unfold stepF
  by_cases h2 : i < p
  · rw [if_pos h2]; exact hf i hi
  · by_cases h3 : i = p
    · rw [if_neg h2, if_pos h3]; have := hf p hp; omega
    · rw [if_neg h2, if_neg h3]; omega
theorem rk_stepF {f : Nat → Int} {k : Int} {p : Nat} : ∀ {n}, p < n → (∀ i, p < i → i < n → f i = k - 1) → rk (stepF p f) k n = rk f k n + 1
  | 0, h, _ => by omega
  | n + 1, h, hl => by
    by_cases e : p = n
    · subst e
      simp only [rk]
      rw [rk_congr (f := stepF p f) (g := f) (n := p) fun i hi => by unfold stepF; rw [if_pos hi]]
      unfold stepF; rw [if_neg (by omega), if_pos rfl]; omega
    · have h1 := rk_stepF (n := n) (f := f) (k := k) (p := p) (by omega) fun i a b => hl i a (by omega)
      have h2 := hl n (by omega) (by omega)
      simp only [rk]
      rw [h1, h2, Int.add_mul, Int.one_mul]
      unfold stepF; rw [if_neg (by omega), if_neg (by omega)]; omega
theorem rk_top {f : Nat → Int} {k : Int} : ∀ {n}, (∀ i, i < n → f i = k - 1) → rk f k n = geo0 k (n + 1) - 1
  | 0, _ => by simp [rk, geo0, geo]
  | n + 1, h => by
    have h1 := rk_top (n := n) (f := f) (k := k) fun i hi => h i (by omega)
    have h2 := geo0_mul (k := k) (n + 1)
    simp only [rk]
    rw [h1, h n (by omega), Int.sub_mul, Int.one_mul]; omega
theorem rk_zero {k : Int} : ∀ n, rk (fun _ => 0) k n = geo0 k n
  | 0 => rfl
  | n + 1 => by have := geo0_mul (k := k) n; simp only [rk]; rw [rk_zero n]; omega

/-- The next word: a word, one place on. -/
theorem next_word {n : Nat} {f : Nat → Int} {k : Int} (h : IsWord n f k) (he : (nextV n f k).2.2 = 0) :
    IsWord (nextV n f k).1 (nextV n f k).2.1 k ∧ rk (nextV n f k).2.1 k (nextV n f k).1 = rk f k n + 1 := by
  obtain ⟨k0, k1, hn, hd⟩ := id h
  rcases first_cases (fun i => topB f k (n - 1 - i)) n with ⟨_, hl⟩ | ⟨i, _, hi, hp, hl⟩
  · have hall : ∀ i, i < n → f i = k - 1 := fun i hi => by
      have := hl (n - 1 - i) (by omega)
      rw [show n - 1 - (n - 1 - i) = i by omega] at this
      simpa [topB] using this
    by_cases h4 : n = 4096
    · rw [nextV_full h hall h4] at he; simp at he
    · rw [nextV_long h hall (by omega)]
      refine ⟨⟨k0, k1, by simp only; omega, fun i _ => ⟨Int.le_refl _, by simp only; omega⟩⟩, ?_⟩
      show rk (fun _ => 0) k (n + 1) = _
      rw [rk_zero, rk_top hall]; omega
  · have hp1 : f (n - 1 - i) < k - 1 := by
      have h1 := hd (n - 1 - i) (by omega)
      have h2 : f (n - 1 - i) ≠ k - 1 := by simpa [topB] using hp
      omega
    have hp2 : ∀ j, n - 1 - i < j → j < n → f j = k - 1 := fun j a b => by
      have := hl (n - 1 - j) (by omega)
      rw [show n - 1 - (n - 1 - j) = j by omega] at this
      simpa [topB] using this
    rw [nextV_step h (by omega) hp1 hp2]
    exact ⟨⟨k0, k1, hn, dig_step k0 hd (by omega) hp1⟩, rk_stepF (by omega) hp2⟩

end Go.Proofs.Ytpbceijlpkggpaa
