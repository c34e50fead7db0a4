/-
  Plain numbers: products held against a bound, the count of words by lengths.
-/
import Derived.WalkKit
namespace Go.Proofs.Ytdlcbjbcehpooaa
open Go.RowKit

theorem i64_and1 (n : Int) : bits .and .i64 n 1 = n % 2 := by
  have h1 : (BitVec.ofInt 64 1).toNat = 2 ^ 1 - 1 := by decide
  have key : (BitVec.ofInt 64 n &&& BitVec.ofInt 64 1).toNat = (n % ((2 ^ 64 : Nat) : Int)).toNat % 2 ^ 1 := by
    rw [BitVec.toNat_and, BitVec.toNat_ofInt, h1, Nat.and_two_pow_sub_one_eq_mod]
  show IntKind.i64.wrap ((BitVec.ofInt 64 n &&& BitVec.ofInt 64 1).toNat : Nat) = n % 2
  rw [key, IntKind.wrap_i64]
  omega
theorem bit_yes {n : Int} (h : n % 2 = 1) : (bits .and .i64 n 1 == 1) = true := by rw [i64_and1, h]; rfl
theorem bit_no {n : Int} (h : n % 2 = 0) : (bits .and .i64 n 1 == 1) = false := by rw [i64_and1, h]; rfl

/-- Mul, as the document has it: the product and the error. -/
def mulV (a b : Int) : Int × Int :=
  if a < 0 ∨ b < 0 ∨ 1099511627776 < a ∨ 1099511627776 < b then (0, 1) else if 1099511627776 < a * b then (0, 11) else (a * b, 0)

theorem mulV_arg {a b : Int} (h : a < 0 ∨ b < 0 ∨ 1099511627776 < a ∨ 1099511627776 < b) : mulV a b = (0, 1) := by unfold mulV; rw [if_pos h]
theorem mulV_over {a b : Int} (ha : 0 ≤ a) (hb : 0 ≤ b) (ha' : a ≤ 1099511627776) (hb' : b ≤ 1099511627776) (h : 1099511627776 < a * b) : mulV a b = (0, 11) := by unfold mulV; rw [if_neg (by omega), if_pos h]
theorem mulV_ok {a b : Int} (ha : 0 ≤ a) (hb : 0 ≤ b) (ha' : a ≤ 1099511627776) (hb' : b ≤ 1099511627776) (h : a * b ≤ 1099511627776) : mulV a b = (a * b, 0) := by unfold mulV; rw [if_neg (by omega), if_neg (by omega)]

theorem over_iff {a b : Int} (hb : 0 < b) : 1099511627776 / b < a ↔ 1099511627776 < a * b := Int.ediv_lt_iff_lt_mul hb

/-- How many words over k symbols have at most n symbols: 1 + k + .. + k^n. -/
def geo (k : Int) : Nat → Int
  | 0 => 1
  | n + 1 => geo k n * k + 1

theorem geo_pos {k : Int} (hk : 1 ≤ k) : ∀ n, 1 ≤ geo k n
  | 0 => by simp [geo]
  | n + 1 => by have := geo_pos hk n; have h2 : 0 ≤ geo k n * k := Int.mul_nonneg (by omega) (by omega); simp only [geo]; omega
theorem geo_step {k : Int} (hk : 1 ≤ k) (n : Nat) : geo k n < geo k (n + 1) := by
  have h1 := geo_pos hk n
  have h2 : geo k n * 1 ≤ geo k n * k := Int.mul_le_mul_of_nonneg_left hk (by omega)
  simp only [geo]; omega
theorem geo_mono {k : Int} (hk : 1 ≤ k) {m n : Nat} (h : m ≤ n) : geo k m ≤ geo k n := by
  induction n with
  | zero => have : m = 0 := by omega
            subst this; exact Int.le_refl _
  | succ n ih =>
    by_cases e : m = n + 1
    · subst e; exact Int.le_refl _
    · have := ih (by omega); have := geo_step hk n; omega
/-- geo by powers: the next power is added. -/
theorem geo_pow {k : Int} : ∀ n, geo k (n + 1) = geo k n + k ^ (n + 1)
  | 0 => by simp [geo, Int.pow_succ]; omega
  | n + 1 => by
    have ih := geo_pow (k := k) n
    have e : geo k (n + 2) = geo k (n + 1) * k + 1 := rfl
    rw [e, ih, Int.add_mul]
    have e2 : geo k (n + 1) = geo k n * k + 1 := rfl
    have e3 : (k : Int) ^ (n + 2) = k ^ (n + 1) * k := Int.pow_succ ..
    rw [ih] at e2
    rw [e3]; omega
theorem pow_le_geo {k : Int} (hk : 1 ≤ k) : ∀ n, k ^ n ≤ geo k n
  | 0 => by simp [geo]
  | n + 1 => by have := geo_pow (k := k) n; have := geo_pos hk n; omega
theorem pow_pos' {k : Int} (hk : 1 ≤ k) (n : Nat) : 1 ≤ k ^ n := by
  have : 0 < k ^ n := Int.pow_pos (by omega)
  omega

def geo0 (k : Int) : Nat → Int
  | 0 => 0
  | n + 1 => geo k n
theorem geo0_step {k : Int} (_hk : 1 ≤ k) : ∀ j, geo0 k (j + 1) = geo0 k j + k ^ j
  | 0 => by simp [geo0, geo]
  | j + 1 => geo_pow j
theorem geo0_nn {k : Int} (hk : 1 ≤ k) : ∀ j, 0 ≤ geo0 k j
  | 0 => by simp [geo0]
  | j + 1 => by have := geo_pos hk j; simp only [geo0]; omega
theorem geo0_ge {k : Int} (hk : 1 ≤ k) : ∀ j : Nat, (j : Int) ≤ geo0 k j
  | 0 => by simp [geo0]
  | j + 1 => by have := geo0_ge hk j; have := geo0_step hk j; have := pow_pos' hk j; omega
theorem pow_bound {k : Int} (hk : 1 ≤ k) (hk' : k ≤ 64) : ∀ {j : Nat}, geo0 k j ≤ 1099511627776 → k ^ j ≤ 64 * 1099511627776
  | 0, _ => by simp
  | j + 1, h => by
    have h1 := pow_le_geo hk j
    have h2 := pow_pos' hk j
    have h3 : k ^ j * k ≤ k ^ j * 64 := Int.mul_le_mul_of_nonneg_left hk' (by omega)
    have h4 : k ^ (j + 1) = k ^ j * k := Int.pow_succ ..
    simp only [geo0] at h
    omega

/-- Count, as the document has it. -/
def countV (k n : Int) : Int × Int :=
  if k < 1 ∨ 64 < k ∨ n < 0 then (0, 1) else if k = 1 then (if 1099511627776 ≤ n then (0, 11) else (n + 1, 0))
  else if 1099511627776 < geo k n.toNat then (0, 11) else (geo k n.toNat, 0)

/-- a times the first digits of b, in base 2. -/
theorem shr_step (a b : Int) (i : Nat) : a * (b / 2 ^ i) = 2 * (a * (b / 2 ^ (i + 1))) + (b / 2 ^ i % 2) * a := by
  have e : b / 2 ^ (i + 1) = b / 2 ^ i / 2 := by
    rw [Int.pow_succ, ← Int.ediv_ediv_of_nonneg]
    exact Int.le_of_lt (Int.pow_pos (by omega))
  rw [e]
  generalize b / 2 ^ i = c
  have h := Int.mul_ediv_add_emod c 2
  have h2 : a * c = a * (2 * (c / 2) + c % 2) := by rw [h]
  rw [h2, Int.mul_add, ← Int.mul_assoc, Int.mul_comm a 2, Int.mul_assoc, Int.mul_comm a (c % 2)]
theorem shr_top {b : Int} (h0 : 0 ≤ b) (h1 : b ≤ 1099511627776) : b / 2 ^ 41 = 0 := by
  have : (2 : Int) ^ 41 = 2199023255552 := by decide
  rw [this]; omega
theorem shr_le {a b : Int} (ha : 0 ≤ a) (h0 : 0 ≤ b) (i : Nat) : a * (b / 2 ^ i) ≤ a * b := by
  refine Int.mul_le_mul_of_nonneg_left ?_ ha
  exact Int.ediv_le_self _ h0
theorem shr_nn {a b : Int} (ha : 0 ≤ a) (h0 : 0 ≤ b) (i : Nat) : 0 ≤ a * (b / 2 ^ i) := Int.mul_nonneg ha (Int.ediv_nonneg h0 (Int.le_of_lt (Int.pow_pos (by omega))))

end Go.Proofs.Ytdlcbjbcehpooaa
