/-
  Some texts of this seat, one behind the other.
-/
import Derived.BigQuiet
import Derived.Deep.QuietTactic
import Derived.Deep.RegionLaw
import Derived.Laws.AppendOwnNone
import Derived.Laws.CopyOwn
import Derived.Maps.AppendAt
import Derived.Maps.OwnOps
import Derived.Maps.OwnSet
import Derived.Test.YtlcablkhomnieaaProg
import Derived.WalkKit
import Derived.WalkSmall
import Derived.WalkSpells
/-
  Plain words that the other texts of this seat use: how a slice of ints reads in a world, and that old memory stays as it was.
-/
namespace Go.Proofs.Ytlcablkhomnieaa
open Go.RowKit

/-- The slice with the address a and n elements reads in w as f 0, .., f (n - 1). -/
def Rd (w : World) (a : Option Addr) (n : Nat) (f : Nat → Int) : Prop :=
  n = 0 ∨ ∃ b off, a = some ⟨b, off, none⟩ ∧ ∀ i, i < n → w.cell? ⟨b, off + i, none⟩ = some (.int .i64 (f i))

theorem Rd.nil (w : World) (a : Option Addr) (f : Nat → Int) : Rd w a 0 f := .inl rfl

theorem Rd.at {w : World} {a : Option Addr} {n : Nat} {f : Nat → Int} (h : Rd w a n f) {i : Nat} (hi : i < n) :
    ∃ b off, a = some ⟨b, off, none⟩ ∧ ∀ j, j < n → w.cell? ⟨b, off + j, none⟩ = some (.int .i64 (f j)) := by
  rcases h with h | h
  · omega
  · exact h

theorem Rd.below {w w' : World} {a : Option Addr} {n : Nat} {f : Nat → Int} (h : Rd w a n f) (hb : Below w.heap.size w w') : Rd w' a n f := by
  rcases h with h | ⟨b, off, rfl, hc⟩
  · exact .inl h
  · refine .inr ⟨b, off, rfl, fun i hi => ?_⟩
    have := World.block_lt_of_cell? w _ (hc i hi)
    rw [hb.cell (by exact this)]
    exact hc i hi

theorem Rd.congr {w : World} {a : Option Addr} {n : Nat} {f g : Nat → Int} (h : Rd w a n f) (e : ∀ i, i < n → f i = g i) : Rd w a n g := by
  rcases h with h | ⟨b, off, rfl, hc⟩
  · exact .inl h
  · exact .inr ⟨b, off, rfl, fun i hi => by rw [hc i hi, e i hi]⟩

theorem Rd.take {w : World} {a : Option Addr} {n m : Nat} {f : Nat → Int} (h : Rd w a n f) (hm : m ≤ n) : Rd w a m f := by
  rcases h with h | ⟨b, off, rfl, hc⟩
  · exact .inl (by omega)
  · exact .inr ⟨b, off, rfl, fun i hi => hc i (by omega)⟩

theorem hide {p : Prop} (h : p) : Hid p := h
theorem unhide {p : Prop} (h : Hid p) : p := h

theorem ret_int {k : IntKind} {a b : Int} (h : a = b) : Ending.returned (.int k a) = .returned (.int k b) := by rw [h]
theorem ret_bool {a b : Bool} (h : a = b) : Ending.returned (.bool a) = .returned (.bool b) := by rw [h]
theorem ret_ints {k j : IntKind} {a b c d : Int} (h : a = b) (g : c = d) : Ending.returned (.tuple #[.int k a, .int j c]) = .returned (.tuple #[.int k b, .int j d]) := by rw [h, g]

end Go.Proofs.Ytlcablkhomnieaa

/-
  Plain numbers: products held against a bound, the count of words by lengths.
-/
namespace Go.Proofs.Ytlcablkhomnieaa
open Go.RowKit

theorem i64_and1 (n : Int) : bits .and .i64 n 1 = n % 2 := by
  have h1 : (BitVec.ofInt 64 1).toNat = 2 ^ 1 - 1 := by decide
  have key : (BitVec.ofInt 64 n &&& BitVec.ofInt 64 1).toNat = (n % ((2 ^ 64 : Nat) : Int)).toNat % 2 ^ 1 := by
    rw [BitVec.toNat_and, BitVec.toNat_ofInt, h1, Nat.and_two_pow_sub_one_eq_mod]
  show IntKind.i64.wrap ((BitVec.ofInt 64 n &&& BitVec.ofInt 64 1).toNat : Nat) = n % 2
  rw [key, IntKind.wrap_i64]
  omega
theorem bit_yes {n : Int} (h : n % 2 = 1) : (bits .and .i64 n 1 == 1) = true := by rw [i64_and1, h]; rfl
theorem bit_no {n : Int} (h : n % 2 = 0) : (bits .and .i64 n 1 == 1) = false := by rw [i64_and1, h]; rfl

/-- Mul, as the document has it: the product and the error. -/
def mulV (a b : Int) : Int × Int :=
  if a < 0 ∨ b < 0 ∨ 1099511627776 < a ∨ 1099511627776 < b then (0, 1) else if 1099511627776 < a * b then (0, 11) else (a * b, 0)

theorem mulV_arg {a b : Int} (h : a < 0 ∨ b < 0 ∨ 1099511627776 < a ∨ 1099511627776 < b) : mulV a b = (0, 1) := by unfold mulV; rw [if_pos h]
theorem mulV_over {a b : Int} (ha : 0 ≤ a) (hb : 0 ≤ b) (ha' : a ≤ 1099511627776) (hb' : b ≤ 1099511627776) (h : 1099511627776 < a * b) : mulV a b = (0, 11) := by unfold mulV; rw [if_neg (by omega), if_pos h]
theorem mulV_ok {a b : Int} (ha : 0 ≤ a) (hb : 0 ≤ b) (ha' : a ≤ 1099511627776) (hb' : b ≤ 1099511627776) (h : a * b ≤ 1099511627776) : mulV a b = (a * b, 0) := by unfold mulV; rw [if_neg (by omega), if_neg (by omega)]

theorem over_iff {a b : Int} (hb : 0 < b) : 1099511627776 / b < a ↔ 1099511627776 < a * b := Int.ediv_lt_iff_lt_mul hb

/-- How many words over k symbols have at most n symbols: 1 + k + .. + k^n. -/
def geo (k : Int) : Nat → Int
  | 0 => 1
  | n + 1 => geo k n * k + 1

theorem geo_pos {k : Int} (hk : 1 ≤ k) : ∀ n, 1 ≤ geo k n
  | 0 => by simp [geo]
  | n + 1 => by have := geo_pos hk n; have h2 : 0 ≤ geo k n * k := Int.mul_nonneg (by omega) (by omega); simp only [geo]; omega
theorem geo_step {k : Int} (hk : 1 ≤ k) (n : Nat) : geo k n < geo k (n + 1) := by
  have h1 := geo_pos hk n
  have h2 : geo k n * 1 ≤ geo k n * k := Int.mul_le_mul_of_nonneg_left hk (by omega)
  simp only [geo]; omega
theorem geo_mono {k : Int} (hk : 1 ≤ k) {m n : Nat} (h : m ≤ n) : geo k m ≤ geo k n := by
  induction n with
  | zero => have : m = 0 := by omega
            subst this; exact Int.le_refl _
  | succ n ih =>
    by_cases e : m = n + 1
    · subst e; exact Int.le_refl _
    · have := ih (by omega); have := geo_step hk n; omega
/-- geo by powers: the next power is added. -/
theorem geo_pow {k : Int} : ∀ n, geo k (n + 1) = geo k n + k ^ (n + 1)
  | 0 => by simp [geo, Int.pow_succ]; omega
  | n + 1 => by
    have ih := geo_pow (k := k) n
    have e : geo k (n + 2) = geo k (n + 1) * k + 1 := rfl
    rw [e, ih, Int.add_mul]
    have e2 : geo k (n + 1) = geo k n * k + 1 := rfl
    have e3 : (k : Int) ^ (n + 2) = k ^ (n + 1) * k := Int.pow_succ ..
    rw [ih] at e2
    rw [e3]; omega
theorem pow_le_geo {k : Int} (hk : 1 ≤ k) : ∀ n, k ^ n ≤ geo k n
  | 0 => by simp [geo]
  | n + 1 => by have := geo_pow (k := k) n; have := geo_pos hk n; omega
theorem pow_pos' {k : Int} (hk : 1 ≤ k) (n : Nat) : 1 ≤ k ^ n := by
  have : 0 < k ^ n := Int.pow_pos (by omega)
  omega

def geo0 (k : Int) : Nat → Int
  | 0 => 0
  | n + 1 => geo k n
theorem geo0_step {k : Int} (_hk : 1 ≤ k) : ∀ j, geo0 k (j + 1) = geo0 k j + k ^ j
  | 0 => by simp [geo0, geo]
  | j + 1 => geo_pow j
theorem geo0_nn {k : Int} (hk : 1 ≤ k) : ∀ j, 0 ≤ geo0 k j
  | 0 => by simp [geo0]
  | j + 1 => by have := geo_pos hk j; simp only [geo0]; omega
theorem geo0_ge {k : Int} (hk : 1 ≤ k) : ∀ j : Nat, (j : Int) ≤ geo0 k j
  | 0 => by simp [geo0]
  | j + 1 => by have := geo0_ge hk j; have := geo0_step hk j; have := pow_pos' hk j; omega
theorem pow_bound {k : Int} (hk : 1 ≤ k) (hk' : k ≤ 64) : ∀ {j : Nat}, geo0 k j ≤ 1099511627776 → k ^ j ≤ 64 * 1099511627776
  | 0, _ => by simp
  | j + 1, h => by
    have h1 := pow_le_geo hk j
    have h2 := pow_pos' hk j
    have h3 : k ^ j * k ≤ k ^ j * 64 := Int.mul_le_mul_of_nonneg_left hk' (by omega)
    have h4 : k ^ (j + 1) = k ^ j * k := Int.pow_succ ..
    simp only [geo0] at h
    omega

/-- Count, as the document has it. -/
def countV (k n : Int) : Int × Int :=
  if k < 1 ∨ 64 < k ∨ n < 0 then (0, 1) else if k = 1 then (if 1099511627776 ≤ n then (0, 11) else (n + 1, 0))
  else if 1099511627776 < geo k n.toNat then (0, 11) else (geo k n.toNat, 0)

/-- a times the first digits of b, in base 2. -/
theorem shr_step (a b : Int) (i : Nat) : a * (b / 2 ^ i) = 2 * (a * (b / 2 ^ (i + 1))) + (b / 2 ^ i % 2) * a := by
  have e : b / 2 ^ (i + 1) = b / 2 ^ i / 2 := by
    rw [Int.pow_succ, ← Int.ediv_ediv_of_nonneg]
    exact Int.le_of_lt (Int.pow_pos (by omega))
  rw [e]
  generalize b / 2 ^ i = c
  have h := Int.mul_ediv_add_emod c 2
  have h2 : a * c = a * (2 * (c / 2) + c % 2) := by rw [h]
  rw [h2, Int.mul_add, ← Int.mul_assoc, Int.mul_comm a 2, Int.mul_assoc, Int.mul_comm a (c % 2)]
theorem shr_top {b : Int} (h0 : 0 ≤ b) (h1 : b ≤ 1099511627776) : b / 2 ^ 41 = 0 := by
  have : (2 : Int) ^ 41 = 2199023255552 := by decide
  rw [this]; omega
theorem shr_le {a b : Int} (ha : 0 ≤ a) (h0 : 0 ≤ b) (i : Nat) : a * (b / 2 ^ i) ≤ a * b := by
  refine Int.mul_le_mul_of_nonneg_left ?_ ha
  exact Int.ediv_le_self _ h0
theorem shr_nn {a b : Int} (ha : 0 ≤ a) (h0 : 0 ≤ b) (i : Nat) : 0 ≤ a * (b / 2 ^ i) := Int.mul_nonneg ha (Int.ediv_nonneg h0 (Int.le_of_lt (Int.pow_pos (by omega))))

end Go.Proofs.Ytlcablkhomnieaa

/-
  Plain lists of numbers, as functions with a length: the first place where something holds, which lists are words, the order, places.
-/
namespace Go.Proofs.Ytlcablkhomnieaa
open Go.RowKit

/-- The first place below n where p holds. -/
def first (p : Nat → Bool) : Nat → Option Nat
  | 0 => none
  | n + 1 => match first p n with
    | some i => some i
    | none => if p n then some n else none

theorem first_none {p : Nat → Bool} : ∀ {n}, (∀ j, j < n → p j = false) → first p n = none
  | 0, _ => rfl
  | n + 1, h => by simp [first, first_none (n := n) fun j hj => h j (by omega), h n (by omega)]
theorem first_some {p : Nat → Bool} {i : Nat} : ∀ {n}, i < n → p i = true → (∀ j, j < i → p j = false) → first p n = some i
  | 0, h, _, _ => by omega
  | n + 1, h, hp, hl => by
    by_cases e : i = n
    · subst e; simp [first, first_none hl, hp]
    · simp [first, first_some (n := n) (by omega) hp hl]
theorem first_cases (p : Nat → Bool) : ∀ n, (first p n = none ∧ ∀ j, j < n → p j = false) ∨ ∃ i, first p n = some i ∧ i < n ∧ p i = true ∧ ∀ j, j < i → p j = false
  | 0 => .inl ⟨rfl, fun j hj => by omega⟩
  | n + 1 => by
    rcases first_cases p n with ⟨h, hl⟩ | ⟨i, h, hi, hp, hl⟩
    · cases e : p n
      · exact .inl ⟨by simp [first, h, e], fun j hj => by by_cases e2 : j = n; { subst e2; exact e }; exact hl j (by omega)⟩
      · exact .inr ⟨n, by simp [first, h, e], by omega, e, hl⟩
    · exact .inr ⟨i, by simp [first, h], by omega, hp, hl⟩
theorem first_congr {p q : Nat → Bool} : ∀ {n}, (∀ j, j < n → p j = q j) → first p n = first q n
  | 0, _ => rfl
  | n + 1, h => by simp [first, first_congr (n := n) fun j hj => h j (by omega), h n (by omega)]

def badB (f : Nat → Int) (k : Int) (i : Nat) : Bool := decide (f i < 0 ∨ k ≤ f i)
theorem bad_yes {f : Nat → Int} {k : Int} {i : Nat} (h : f i < 0 ∨ k ≤ f i) : badB f k i = true := by simp [badB, h]
theorem bad_no {f : Nat → Int} {k : Int} {i : Nat} (h : 0 ≤ f i) (h2 : f i < k) : badB f k i = false := by simp [badB]; omega
theorem bad_not {f : Nat → Int} {k : Int} {i : Nat} (h : badB f k i = false) : 0 ≤ f i ∧ f i < k := by simp [badB] at h; omega

/-- Check, as the document has it: the place and the error. -/
def chkV (n : Nat) (f : Nat → Int) (k : Int) : Int × Int :=
  if k < 1 ∨ 64 < k then (0, 1) else if 4096 < n then (0, 2) else match first (badB f k) n with
    | some i => (i, 10)
    | none => (0, 0)
theorem chkV_arg {n : Nat} {f : Nat → Int} {k : Int} (h : k < 1 ∨ 64 < k) : chkV n f k = (0, 1) := by unfold chkV; rw [if_pos h]
theorem chkV_long {n : Nat} {f : Nat → Int} {k : Int} (h1 : 1 ≤ k) (h2 : k ≤ 64) (h : 4096 < n) : chkV n f k = (0, 2) := by unfold chkV; rw [if_neg (by omega), if_pos h]
theorem chkV_sym {n i : Nat} {f : Nat → Int} {k : Int} (h1 : 1 ≤ k) (h2 : k ≤ 64) (h : n ≤ 4096) (hi : i < n) (hb : badB f k i = true) (hl : ∀ j, j < i → badB f k j = false) : chkV n f k = ((i : Int), 10) := by
  unfold chkV; rw [if_neg (by omega), if_neg (by omega), first_some hi hb hl]
theorem chkV_ok {n : Nat} {f : Nat → Int} {k : Int} (h1 : 1 ≤ k) (h2 : k ≤ 64) (h : n ≤ 4096) (hl : ∀ j, j < n → badB f k j = false) : chkV n f k = (0, 0) := by
  unfold chkV; rw [if_neg (by omega), if_neg (by omega), first_none hl]
theorem chkV_congr {n : Nat} {f g : Nat → Int} {k : Int} (h : ∀ i, i < n → f i = g i) : chkV n f k = chkV n g k := by
  unfold chkV; rw [first_congr (q := badB g k) fun j hj => by simp [badB, h j hj]]
/-- A word: Check finds nothing. -/
def IsWord (n : Nat) (f : Nat → Int) (k : Int) : Prop := 1 ≤ k ∧ k ≤ 64 ∧ n ≤ 4096 ∧ ∀ i, i < n → 0 ≤ f i ∧ f i < k
theorem chkV_word {n : Nat} {f : Nat → Int} {k : Int} (h : IsWord n f k) : chkV n f k = (0, 0) :=
  chkV_ok h.1 h.2.1 h.2.2.1 fun j hj => bad_no (h.2.2.2 j hj).1 (h.2.2.2 j hj).2
theorem chkV_cases (n : Nat) (f : Nat → Int) (k : Int) : IsWord n f k ∨ ((chkV n f k).2 ≠ 0 ∧ 0 ≤ (chkV n f k).2 ∧ (chkV n f k).2 ≤ 10) := by
  by_cases hk : k < 1 ∨ 64 < k
  · exact .inr (by rw [chkV_arg hk]; simp)
  · by_cases hn : 4096 < n
    · exact .inr (by rw [chkV_long (by omega) (by omega) hn]; simp)
    · rcases first_cases (badB f k) n with ⟨_, hl⟩ | ⟨i, _, hi, hp, hl⟩
      · exact .inl ⟨by omega, by omega, by omega, fun i hi => bad_not (hl i hi)⟩
      · exact .inr (by rw [chkV_sym (by omega) (by omega) (by omega) hi hp hl]; simp)
theorem word_of_chk {n : Nat} {f : Nat → Int} {k : Int} (h : (chkV n f k).2 = 0) : IsWord n f k := by
  rcases chkV_cases n f k with h1 | h1
  · exact h1
  · exact absurd h h1.1

def cmp (a b : Int) : Int := if a < b then -1 else if b < a then 1 else 0
theorem cmp_lt {a b : Int} (h : a < b) : cmp a b = -1 := by unfold cmp; rw [if_pos h]
theorem cmp_gt {a b : Int} (h : b < a) : cmp a b = 1 := by unfold cmp; rw [if_neg (by omega), if_pos h]
theorem cmp_eq {a b : Int} (h : a = b) : cmp a b = 0 := by unfold cmp; rw [if_neg (by omega), if_neg (by omega)]

def neB (f g : Nat → Int) (i : Nat) : Bool := f i != g i
/-- Compare, as the document has it. -/
def cmpV (n : Nat) (f : Nat → Int) (m : Nat) (g : Nat → Int) : Int :=
  if n ≠ m then cmp n m else match first (neB f g) n with
    | some i => cmp (f i) (g i)
    | none => 0
def ahdV (n : Nat) (f : Nat → Int) (m : Nat) (g : Nat → Int) : Bool := decide (cmpV n f m g = -1)
theorem cmpV_len {n m : Nat} {f g : Nat → Int} (h : n ≠ m) : cmpV n f m g = cmp n m := by unfold cmpV; rw [if_pos h]
theorem cmpV_at {n i : Nat} {f g : Nat → Int} (hi : i < n) (hne : f i ≠ g i) (hl : ∀ j, j < i → f j = g j) : cmpV n f n g = cmp (f i) (g i) := by
  unfold cmpV; rw [if_neg (by omega), first_some hi (by simp [neB, hne]) fun j hj => by simp [neB, hl j hj]]
theorem cmpV_same {n : Nat} {f g : Nat → Int} (hl : ∀ j, j < n → f j = g j) : cmpV n f n g = 0 := by
  unfold cmpV; rw [if_neg (by omega), first_none fun j hj => by simp [neB, hl j hj]]
theorem cmpV_congr {n m : Nat} {f f' g g' : Nat → Int} (h : ∀ i, i < n → f i = f' i) (h' : ∀ i, i < m → g i = g' i) : cmpV n f m g = cmpV n f' m g' := by
  by_cases e : n = m
  · subst e
    unfold cmpV; rw [if_neg (by omega), if_neg (by omega)]
    rw [first_congr (q := neB f' g') fun j hj => by simp [neB, h j hj, h' j hj]]
    rcases first_cases (neB f' g') n with ⟨e, _⟩ | ⟨i, e, hi, _⟩
    · rw [e]
    · rw [e]; simp only; rw [h i hi, h' i hi]
  · rw [cmpV_len e, cmpV_len e]
/-- The three ways to stand to one another. -/
theorem cmpV_cases (n : Nat) (f : Nat → Int) (m : Nat) (g : Nat → Int) :
    (n = m ∧ ∀ j, j < n → f j = g j) ∨ (n ≠ m) ∨ (n = m ∧ ∃ i, i < n ∧ f i ≠ g i ∧ ∀ j, j < i → f j = g j) := by
  by_cases e : n = m
  · rcases first_cases (neB f g) n with ⟨_, hl⟩ | ⟨i, _, hi, hp, hl⟩
    · exact .inl ⟨e, fun j hj => by simpa [neB] using hl j hj⟩
    · exact .inr (.inr ⟨e, i, hi, by simpa [neB] using hp, fun j hj => by simpa [neB] using hl j hj⟩)
  · exact .inr (.inl e)
theorem cmpV_neg (n : Nat) (f : Nat → Int) (m : Nat) (g : Nat → Int) : cmpV m g n f = - cmpV n f m g := by
  have hc : ∀ a b : Int, cmp b a = - cmp a b := fun a b => by unfold cmp; split <;> split <;> omega
  rcases cmpV_cases n f m g with ⟨rfl, h⟩ | h | ⟨rfl, i, hi, hne, hl⟩
  · rw [cmpV_same h, cmpV_same fun j hj => (h j hj).symm]; rfl
  · rw [cmpV_len h, cmpV_len (Ne.symm h), hc]
  · rw [cmpV_at hi hne hl, cmpV_at hi (Ne.symm hne) fun j hj => (hl j hj).symm, hc]
theorem cmp_range (a b : Int) : cmp a b = -1 ∨ cmp a b = 0 ∨ cmp a b = 1 := by
  rcases Int.lt_trichotomy a b with h | h | h
  · exact .inl (cmp_lt h)
  · exact .inr (.inl (cmp_eq h))
  · exact .inr (.inr (cmp_gt h))
theorem cmpV_range (n : Nat) (f : Nat → Int) (m : Nat) (g : Nat → Int) : cmpV n f m g = -1 ∨ cmpV n f m g = 0 ∨ cmpV n f m g = 1 := by
  unfold cmpV; split
  · exact cmp_range _ _
  · split
    · exact cmp_range _ _
    · simp

def samB (n : Nat) (f : Nat → Int) (m : Nat) (g : Nat → Int) : Bool := decide (cmpV n f m g = 0)
theorem samB_yes {n : Nat} {f g : Nat → Int} (h : ∀ i, i < n → f i = g i) : samB n f n g = true := by simp [samB, cmpV_same h]
theorem cmp_ne {a b : Int} (h : a ≠ b) : cmp a b ≠ 0 := by
  rcases Int.lt_trichotomy a b with h1 | h1 | h1
  · rw [cmp_lt h1]; omega
  · exact absurd h1 h
  · rw [cmp_gt h1]; omega
theorem samB_len {n m : Nat} {f g : Nat → Int} (h : n ≠ m) : samB n f m g = false := by
  simp only [samB, cmpV_len h, decide_eq_false_iff_not]; exact cmp_ne (by omega)
theorem samB_at {n i : Nat} {f g : Nat → Int} (hi : i < n) (hne : f i ≠ g i) : samB n f n g = false := by
  rcases cmpV_cases n f n g with ⟨_, h⟩ | h | ⟨_, i, hi, hne, hl⟩
  · exact absurd (h i hi) hne
  · exact absurd rfl h
  · simp only [samB, cmpV_at hi hne hl, decide_eq_false_iff_not]; exact cmp_ne hne
theorem samB_iff {n m : Nat} {f g : Nat → Int} : samB n f m g = true ↔ n = m ∧ ∀ i, i < n → f i = g i := by
  constructor
  · intro h
    rcases cmpV_cases n f m g with h1 | h1 | ⟨rfl, i, hi, hne, _⟩
    · exact h1
    · rw [samB_len h1] at h; exact absurd h (by simp)
    · rw [samB_at hi hne] at h; exact absurd h (by simp)
  · rintro ⟨rfl, h⟩; exact samB_yes h

/-- The place of the first j numbers. -/
def rk (f : Nat → Int) (k : Int) : Nat → Int
  | 0 => 0
  | j + 1 => rk f k j * k + f j + 1
theorem rk_nn {f : Nat → Int} {k : Int} (hk : 1 ≤ k) : ∀ {n}, (∀ i, i < n → 0 ≤ f i) → 0 ≤ rk f k n
  | 0, _ => by simp [rk]
  | n + 1, h => by
    have h1 := rk_nn hk (n := n) fun i hi => h i (by omega)
    have h2 := h n (by omega)
    have h3 : 0 ≤ rk f k n * k := Int.mul_nonneg h1 (by omega)
    simp only [rk]; omega
theorem rk_step {f : Nat → Int} {k : Int} (hk : 1 ≤ k) {n : Nat} (h : ∀ i, i < n + 1 → 0 ≤ f i) : rk f k n < rk f k (n + 1) := by
  have h1 := rk_nn hk (n := n) fun i hi => h i (by omega)
  have h2 := h n (by omega)
  have h3 : rk f k n * 1 ≤ rk f k n * k := Int.mul_le_mul_of_nonneg_left hk h1
  simp only [rk]; omega
theorem rk_mono {f : Nat → Int} {k : Int} (hk : 1 ≤ k) {m n : Nat} (h : ∀ i, i < n → 0 ≤ f i) (hm : m ≤ n) : rk f k m ≤ rk f k n := by
  induction n with
  | zero => have : m = 0 := by omega
            subst this; exact Int.le_refl _
  | succ n ih =>
    by_cases e : m = n + 1
    · subst e; exact Int.le_refl _
    · have := ih (fun i hi => h i (by omega)) (by omega); have := rk_step hk h; omega
theorem rk_congr {f g : Nat → Int} {k : Int} : ∀ {n}, (∀ i, i < n → f i = g i) → rk f k n = rk g k n
  | 0, _ => rfl
  | n + 1, h => by simp only [rk]; rw [rk_congr (n := n) fun i hi => h i (by omega), h n (by omega)]

/-- Rank, as the document has it. -/
def rankV (n : Nat) (f : Nat → Int) (k : Int) : Int × Int :=
  if (chkV n f k).2 = 0 then (if 1099511627776 < rk f k n then (0, 11) else (rk f k n, 0)) else (0, (chkV n f k).2)
theorem rankV_err {n : Nat} {f : Nat → Int} {k : Int} (h : (chkV n f k).2 ≠ 0) : rankV n f k = (0, (chkV n f k).2) := by unfold rankV; rw [if_neg h]
theorem rankV_over {n j : Nat} {f : Nat → Int} {k : Int} (h : IsWord n f k) (hj : j ≤ n) (ho : 1099511627776 < rk f k j) : rankV n f k = (0, 11) := by
  unfold rankV; rw [if_pos (by rw [chkV_word h]), if_pos]
  have := rk_mono (f := f) h.1 (n := n) (fun i hi => (h.2.2.2 i hi).1) hj; omega
theorem rankV_ok {n : Nat} {f : Nat → Int} {k : Int} (h : IsWord n f k) (ho : rk f k n ≤ 1099511627776) : rankV n f k = (rk f k n, 0) := by
  unfold rankV; rw [if_pos (by rw [chkV_word h]), if_neg (by omega)]

/-- The last place below n where p holds. -/
def last (p : Nat → Bool) : Nat → Option Nat
  | 0 => none
  | n + 1 => if p n then some n else last p n
theorem last_none {p : Nat → Bool} : ∀ {n}, (∀ j, j < n → p j = false) → last p n = none
  | 0, _ => rfl
  | n + 1, h => by simp [last, last_none (n := n) fun j hj => h j (by omega), h n (by omega)]
theorem last_some {p : Nat → Bool} {i : Nat} : ∀ {n}, i < n → p i = true → (∀ j, i < j → j < n → p j = false) → last p n = some i
  | 0, h, _, _ => by omega
  | n + 1, h, hp, hl => by
    by_cases e : i = n
    · subst e; simp [last, hp]
    · simp [last, last_some (n := n) (by omega) hp fun j h1 h2 => hl j h1 (by omega), hl n (by omega) (by omega)]

/-- The next word of the same length: the place p is raised, all behind it are 0. -/
def stepF (p : Nat) (f : Nat → Int) (i : Nat) : Int := if i < p then f i else if i = p then f p + 1 else 0

def topB (f : Nat → Int) (k : Int) (i : Nat) : Bool := f i != k - 1
/-- Next, as the document has it: the length, the numbers, the error. -/
def nextV (n : Nat) (f : Nat → Int) (k : Int) : Nat × (Nat → Int) × Int :=
  if (chkV n f k).2 = 0 then match last (topB f k) n with
    | some p => (n, stepF p f, 0)
    | none => if n = 4096 then (0, fun _ => 0, 2) else (n + 1, fun _ => 0, 0)
  else (0, fun _ => 0, (chkV n f k).2)
theorem nextV_err {n : Nat} {f : Nat → Int} {k : Int} (h : (chkV n f k).2 ≠ 0) : nextV n f k = (0, fun _ => 0, (chkV n f k).2) := by unfold nextV; rw [if_neg h]
theorem nextV_step {n p : Nat} {f : Nat → Int} {k : Int} (h : IsWord n f k) (hp : p < n) (h1 : f p < k - 1) (h2 : ∀ i, p < i → i < n → f i = k - 1) : nextV n f k = (n, stepF p f, 0) := by
  unfold nextV; rw [if_pos (by rw [chkV_word h]), last_some hp (by simp [topB]; omega) fun j a b => by simp [topB, h2 j a b]]
theorem nextV_full {n : Nat} {f : Nat → Int} {k : Int} (h : IsWord n f k) (h2 : ∀ i, i < n → f i = k - 1) (hn : n = 4096) : nextV n f k = (0, fun _ => 0, 2) := by
  unfold nextV; rw [if_pos (by rw [chkV_word h]), last_none fun j a => by simp [topB, h2 j a]]; simp only; rw [if_pos hn]
theorem nextV_long {n : Nat} {f : Nat → Int} {k : Int} (h : IsWord n f k) (h2 : ∀ i, i < n → f i = k - 1) (hn : n < 4096) : nextV n f k = (n + 1, fun _ => 0, 0) := by
  unfold nextV; rw [if_pos (by rw [chkV_word h]), last_none fun j a => by simp [topB, h2 j a]]; simp only; rw [if_neg (by omega)]

theorem nextV_len (n : Nat) (f : Nat → Int) (k : Int) : (nextV n f k).1 ≤ 4096 := by
  unfold nextV
  split
  · rename_i h
    have hw := word_of_chk h
    have := hw.2.2.1
    split
    · exact this
    · split
      · exact Nat.zero_le _
      · simp only; omega
  · exact Nat.zero_le _

end Go.Proofs.Ytlcablkhomnieaa

/-
  What the reference's Check of words returns, for every list and every k.
-/
namespace Go.Proofs.Ytlcablkhomnieaa
open Go.RowKit

theorem rcheck_any (a : Option Addr) (n c : Nat) (f : Nat → Int) (k : Int) (w : World) (hr : Rd w a n f) (hn : n ≤ maxLen) :
    Calls Try.prog 42 #[.slice a n c, .int .i64 k] w fun e w' => e = .returned (.tuple #[.int .i64 (chkV n f k).1, .int .i64 (chkV n f k).2]) ∧ w' = w := by
  unfold maxLen at hn
  by_cases hk0 : k < 1
  · have H := hide (chkV_arg (n := n) (f := f) (k := k) (by omega))
    go_enter Try.func42, Try.ntmps42
    go_wp2
    go_ret2
    exact ⟨by rw [unhide H]; rfl, rfl⟩
  · by_cases hk1 : 64 < k
    · have H := hide (chkV_arg (n := n) (f := f) (k := k) (by omega))
      go_enter Try.func42, Try.ntmps42
      go_wp2
      go_ret2
      exact ⟨by rw [unhide H]; rfl, rfl⟩
    · have k0 : 1 ≤ k := by omega
      have k1 : k ≤ 64 := by omega
      clear hk0 hk1
      by_cases hl : 4096 < n
      · have H := hide (chkV_long (f := f) k0 k1 hl)
        go_enter Try.func42, Try.ntmps42
        go_wp2
        go_ret2
        exact ⟨by rw [unhide H]; rfl, rfl⟩
      · have hl2 : n ≤ 4096 := by omega
        clear hl
        go_enter Try.func42, Try.ntmps42
        go_wp2
        go_loop [6] (fun i => ∃ j : Nat, j ≤ n ∧ i = .int .i64 j ∧ ∀ l, l < j → badB f k l = false) (fun i => n - (intOf i).toNat)
        case atStart => exact ⟨0, Nat.zero_le _, rfl, fun l hl => by omega⟩
        case round =>
          obtain ⟨j, hj, rfl, hg⟩ := hrel
          have HG := hide hg
          clear hg
          by_cases hlt : j < n
          · obtain ⟨b, off, rfl, hc⟩ := hr.at hlt
            have hcj := hc j hlt
            clear hc
            by_cases h1 : f j < 0
            · have H := hide (chkV_sym k0 k1 hl2 hlt (bad_yes (.inl h1)) (unhide HG))
              go_wp2
              go_ret2
              exact ⟨by rw [unhide H]; rfl, rfl⟩
            · by_cases h2 : k ≤ f j
              · have H := hide (chkV_sym k0 k1 hl2 hlt (bad_yes (.inr h2)) (unhide HG))
                go_wp2
                go_ret2
                exact ⟨by rw [unhide H]; rfl, rfl⟩
              · have HN := hide (bad_no (f := f) (k := k) (i := j) (by omega) (by omega))
                go_wp2
                go_round
                case rel => exact ⟨j + 1, by omega, by go_num, fun l hl => by by_cases e : l = j; { subst e; exact unhide HN }; exact unhide HG l (by omega)⟩
                case measure => simp [intOf]; omega
          · have he : j = n := by omega
            subst he
            have H := hide (chkV_ok k0 k1 hl2 (unhide HG))
            go_wp2
            go_ret2
            exact ⟨by rw [unhide H]; rfl, rfl⟩

end Go.Proofs.Ytlcablkhomnieaa

/-
  A slice of ints in memory of the call's own, by a length and a function; append to it, in one law.
-/
namespace Go.Proofs.Ytlcablkhomnieaa
open Go.RowKit

theorem infoInt : (Try.prog.info? 3).map (fun i => (i.zero, i.size, i.bytes)) = some (some (.int .i64 0), 1, 8) := by kernel_rfl

theorem add_at (b off j : Nat) : (⟨b, off, none⟩ : Addr).add j = ⟨b, off + j, none⟩ := by cases j <;> simp [Addr.add]

/-- The cells of f 0, .., f (n - 1). -/
def cellsOf (n : Nat) (f : Nat → Int) : List Value := (List.range n).map fun i => .int .i64 (f i)
theorem length_cellsOf (n : Nat) (f : Nat → Int) : (cellsOf n f).length = n := by simp [cellsOf]
theorem cellsOf_get {n : Nat} {f : Nat → Int} {i : Nat} (h : i < n) : (cellsOf n f)[i]? = some (.int .i64 (f i)) := by simp [cellsOf, h]
theorem cellsOf_congr {n : Nat} {f g : Nat → Int} (h : ∀ i, i < n → f i = g i) : cellsOf n f = cellsOf n g := by
  unfold cellsOf; apply List.map_congr_left; intro i hi; rw [h i (by simpa using hi)]
theorem cellsOf_one {n : Nat} {f : Nat → Int} : ∀ u ∈ cellsOf n f, u.oneCell' = true := by
  intro u hu; simp [cellsOf] at hu; obtain ⟨i, _, rfl⟩ := hu; rfl

def constF (x : Int) (_ : Nat) : Int := x

/-- f for the first n places, then g. -/
def joinF (n : Nat) (f g : Nat → Int) (i : Nat) : Int := if i < n then f i else g (i - n)
theorem joinF_lt {n i : Nat} {f g : Nat → Int} (h : i < n) : joinF n f g i = f i := by unfold joinF; rw [if_pos h]
theorem joinF_ge {n i : Nat} {f g : Nat → Int} (h : n ≤ i) : joinF n f g i = g (i - n) := by unfold joinF; rw [if_neg (by omega)]
theorem cellsOf_join (n m : Nat) (f g : Nat → Int) : cellsOf n f ++ cellsOf m g = cellsOf (n + m) (joinF n f g) := by
  refine List.ext_getElem? fun i => ?_
  by_cases h : i < n
  · rw [List.getElem?_append_left (by rw [length_cellsOf]; exact h), cellsOf_get h, cellsOf_get (by omega), joinF_lt h]
  · rw [List.getElem?_append_right (by rw [length_cellsOf]; omega), length_cellsOf]
    by_cases h2 : i < n + m
    · rw [cellsOf_get (by omega), cellsOf_get h2, joinF_ge (by omega)]
    · rw [List.getElem?_eq_none (by rw [length_cellsOf]; omega), List.getElem?_eq_none (by rw [length_cellsOf]; omega)]

/-- The value v is a slice of n ints in memory of the call's own (from block B on), and reads as f. -/
def Own (w : World) (B : Nat) (v : Value) (n : Nat) (f : Nat → Int) : Prop := w.ownsRow B 3 1 v n (cellsOf n f)

theorem Own.nil (w : World) (B : Nat) (f : Nat → Int) : Own w B (.slice none 0 0) 0 f := World.ownsRow_nil _ _ _ _
theorem Own.congr {w : World} {B n : Nat} {v : Value} {f g : Nat → Int} (h : Own w B v n f) (e : ∀ i, i < n → f i = g i) : Own w B v n g := by
  unfold Own; rw [← cellsOf_congr e]; exact h
/-- What is owned, as a slice value. -/
theorem Own.shape {w : World} {B n : Nat} {v : Value} {f : Nat → Int} (h : Own w B v n f) :
    ∃ a c, v = .slice a n c ∧ (a = none → n = 0 ∧ c = 0) ∧ n ≤ c ∧ Rd w a n f ∧ (∀ x, a = some x → B ≤ x.block ∧ x.block < w.heap.size) := by
  have hlt := World.ownsRow.lt h
  obtain ⟨h1, h2⟩ := id h
  rcases h2 with ⟨rfl, rfl⟩ | ⟨g, cap, cur, rfl, hg, hcell, hnc, hm, hs, ht⟩
  · exact ⟨none, 0, rfl, fun _ => ⟨rfl, rfl⟩, Nat.le_refl _, Rd.nil _ _ _, fun x hx => by cases hx⟩
  · refine ⟨_, _, rfl, (fun h => by cases h), hnc, .inr ⟨g, 0, rfl, fun i hi => ?_⟩, fun x hx => ?_⟩
    · have := World.ownsRow.cellAt h i (by omega)
      rw [cellsOf_get hi] at this
      simpa using this
    · cases hx
      exact hlt g rfl

theorem Own.pos {w : World} {B n : Nat} {v : Value} {f : Nat → Int} (h : Own w B v n f) (hn : 0 < n) :
    ∃ g cap, v = .slice (some ⟨g, 0, none⟩) n cap ∧ n ≤ cap ∧ cap ≤ maxLen ∧ B ≤ g ∧ g < w.heap.size ∧ (∀ i, i < n → w.cell? ⟨g, i, none⟩ = some (.int .i64 (f i))) ∧ (∀ i, w.frozen? ⟨g, i, none⟩ = false) := by
  have hlt := World.ownsRow.lt h
  obtain ⟨h1, h2⟩ := id h
  rcases h2 with ⟨rfl, rfl⟩ | ⟨g, cap, cur, rfl, hg, hcell, hnc, hm, hs, ht⟩
  · omega
  · refine ⟨g, cap, rfl, hnc, hm, hg, (hlt g rfl).2, fun i hi => ?_, fun i => World.ownsRow.frozenAt h i⟩
    have := World.ownsRow.cellAt h i (by omega)
    rw [cellsOf_get hi] at this
    exact this

/-- A literal of n numbers. -/
theorem Own.lit (w : World) (B n : Nat) (f : Nat → Int) (cs : Array Value) (hb : B ≤ w.heap.size) (hm : n ≤ maxLen) (hc : cs.toList = cellsOf n f) :
    Own (w.alloc (.cells cs 3)) B (.slice (some ⟨w.heap.size, 0, none⟩) n n) n f := by
  unfold Own
  rw [← hc]
  have hs : cs.size = n := by rw [← Array.length_toList, hc, length_cellsOf]
  exact World.ownsRow_lit w cs n hb hm (by omega)

theorem Rd.lit (w : World) (n : Nat) (f : Nat → Int) (cs : Array Value) (hm : n ≤ maxLen) (hc : cs.toList = cellsOf n f) :
    Rd (w.alloc (.cells cs 3)) (some ⟨w.heap.size, 0, none⟩) n f := by
  obtain ⟨a, c, e, _, _, h, _⟩ := (Own.lit w w.heap.size n f cs (Nat.le_refl _) hm hc).shape
  cases e
  exact h

theorem Own.drew {w : World} {B n : Nat} {v : Value} {f : Nat → Int} (h : Own w B v n f) : Own w.drew B v n f := World.ownsRow.drew h
theorem Own.alloc {w : World} {B n : Nat} {v : Value} {f : Nat → Int} (h : Own w B v n f) (o : Obj) : Own (w.alloc o) B v n f := World.ownsRow.alloc h o

section
variable {w : World} {ops : Array Oper} {rest : List Oper} {o : Oper} {a : Act} {Q : Exit → Act → World → Prop}

/-- append(s, x...), s the call's own. -/
theorem wpl_append (hgd : o.guard = none) (s x : Operand) (ho : o.op = .call { callee := .builtin .append, args := #[s, x], argTypes := #[29, 29] })
    (B : Nat) (v : Value) (n : Nat) (f : Nat → Int) (hs : a.eval s = v) (hown : Own w B v n f)
    (ao : Option Addr) (m c : Nat) (g : Nat → Int) (hx : a.eval x = .slice ao m c) (hrd : Rd w ao m g) (hnil : ao = none → m = 0 ∧ c = 0)
    (hbytes : (n + m) * 8 ≤ 140737488355328) (hbase : B ≤ w.heap.size)
    (h : ∀ v' w', Own w' B v' (n + m) (joinF n f g) → Below B w w' → w.grownBy w' v.ownBlock → wpList Try.prog ops Q rest (a.put o.dst v') w') :
    wpList Try.prog ops Q (o :: rest) a w := by
  obtain ⟨i, hi, hz0, hz1, hz2⟩ := info_parts infoInt
  cases ao with
  | none =>
    obtain ⟨rfl, rfl⟩ := hnil rfl
    refine wpList_append_own_none hgd s x 29 ho B 3 i 1 Try.underlying29 hi v n (cellsOf n f) hs hown hx ?_
    refine h v w ?_ (Below.refl _ _) ⟨rfl, rfl, rfl, Nat.le_refl _, fun _ _ _ => rfl⟩
    exact Own.congr hown fun i hi => (joinF_lt hi).symm
  | some ad =>
    refine wpList_append_own w hgd s x 29 ho B 3 i (.int .i64 0) 1 8 Try.underlying29 hi hz0 hz1 hz2 rfl (by decide) v n (cellsOf n f) hs hown ad m c (cellsOf m g) hx (by rw [length_cellsOf]; omega) ?_ cellsOf_one (by unfold maxLen; omega) hbytes hbase ?_
    · intro j u hj
      have hjm : j < m := by
        have := (List.getElem?_eq_some_iff.1 hj).1
        rwa [length_cellsOf] at this
      rw [cellsOf_get hjm] at hj
      obtain ⟨b, off, e, hc⟩ := hrd.at hjm
      cases e
      rw [← hj]
      rw [add_at]; exact hc j hjm
    · intro v' w' h1 h2 _
      have hlt := World.ownsRow.lt hown
      refine h v' w' ?_ ((Below.refl B w).grown h2 hbase fun k hk => (hlt k hk).1) h2
      unfold Own; rw [← cellsOf_join]; exact h1

/-- make([]int, n). -/
theorem wpl_make (hgd : o.guard = none) (l c : Operand) (ho : o.op = Op.makeSlice 29 l c) (B : Nat) (L C : Int) (n : Nat)
    (hl : a.eval l = .int .i64 L) (hc : a.eval c = .int .i64 C) (hL : L = (n : Int)) (hC : C = (n : Int)) (hbytes : n * 8 ≤ 140737488355328) (hbase : B ≤ w.heap.size)
    (h : ∀ w', Own w' B (.slice (some ⟨w.heap.size, 0, none⟩) n n) n (fun _ => 0) → Below B w w' → w.grownBy w' none → wpList Try.prog ops Q rest (a.put o.dst (.slice (some ⟨w.heap.size, 0, none⟩) n n)) w') :
    wpList Try.prog ops Q (o :: rest) a w := by
  obtain ⟨i, hi, hz0, hz1, hz2⟩ := info_parts infoInt
  refine wpList_make_full w hgd l c 29 ho B 3 i (.int .i64 0) 1 Try.underlying29 hi hz0 hz1 .i64 .i64 L C n hl hc hL hC (by rw [hz2]; omega) (by unfold maxLen; omega) hbase ?_
  intro w' h1 h2
  refine h w' ?_ ((Below.refl B w).grown h2 hbase fun k hk => by cases hk) h2
  unfold Own
  have e : (madeCells (Value.int .i64 0).cells (n * 1)).toList = cellsOf n fun _ => 0 := by
    show (madeCells #[.int .i64 0] (n * 1)).toList = _
    rw [toList_madeCells_one, Nat.mul_one]
    refine List.ext_getElem? fun i => ?_
    by_cases hi : i < n
    · rw [cellsOf_get hi, List.getElem?_replicate, if_pos hi]
    · rw [List.getElem?_eq_none (by simp; omega), List.getElem?_eq_none (by rw [length_cellsOf]; omega)]
  rw [← e]; exact h1

/-- The first m places by g, the rest by f. -/
def copyF (m : Nat) (g f : Nat → Int) (i : Nat) : Int := if i < m then g i else f i

/-- copy(d, s), d the call's own and at least as long as s: its run, to be laid ahead of the walk. -/
theorem copy_run {w : World} {B g n cap : Nat} {f : Nat → Int} (hown : Own w B (.slice (some ⟨g, 0, none⟩) n cap) n f)
    {ao : Option Addr} {m : Nat} (c : Nat) {h' : Nat → Int} (hrd : Rd w ao m h') (hm : m ≤ n) :
    ∃ w', (Builtin.copy_ #[29, 29] 3 #[.slice (some ⟨g, 0, none⟩) n cap, .slice ao m c]).run Try.prog w = .ok (.int .i64 m) w' ∧
      Own w' B (.slice (some ⟨g, 0, none⟩) n cap) n (copyF m h' f) ∧ Below B w w' := by
  obtain ⟨h1, h2⟩ := id hown
  rcases h2 with ⟨e, _⟩ | ⟨g', cap', cur, e, hg, hcell, hnc, hmx, hsz, ht⟩
  · cases e
  · cases e
    by_cases h0 : m = 0
    · subst h0
      exact ⟨w, run_copy_none w _ _ _ 3 _ _ _ _ _ _ Try.underlying29 (by kernel_rfl) (Nat.zero_min _), hown.congr fun i hi => by simp [copyF], Below.refl _ _⟩
    · have hcl : (cellsOf m h').length = m := length_cellsOf _ _
      have hcur : cur.toList.length = cap := by rw [Array.length_toList, hsz, Nat.mul_one]
      obtain ⟨b, off, rfl, hc⟩ := hrd.at (i := 0) (by omega)
      have hrun := run_copy_row (P := Try.prog) w 29 29 3 3 g 0 n cap ⟨b, off, none⟩ m c cur 3 (cellsOf m h') Try.underlying29 (by kernel_rfl) hcell (by rw [hcl]; exact (Nat.min_eq_left hm).symm)
        (fun j v hj => by
          have hjm : j < m := by
            have := (List.getElem?_eq_some_iff.1 hj).1
            rwa [hcl] at this
          rw [cellsOf_get hjm] at hj
          rw [← hj, add_at]
          exact hc j hjm) (by rw [hcl, ← Array.length_toList, hcur]; omega) cellsOf_one
      rw [hcl] at hrun
      refine ⟨_, hrun, ?_, below_setRow (Below.refl _ _) hg _⟩
      have hheap : (w.setRow g (cur.toList.take 0 ++ cellsOf m h' ++ cur.toList.drop (0 + m)).toArray).heap[g]? = some (.cells (cellsOf m h' ++ cur.toList.drop m).toArray 3 (0, 0)) := by
        rw [setRow_heap w g cur _ 3 (0, 0) hcell]; simp
      refine ⟨by rw [length_cellsOf]; omega, .inr ⟨g, cap, _, rfl, hg, hheap, hnc, hmx, ?_, ?_⟩⟩
      · simp [hcl]; omega
      · rw [Nat.mul_one] at ht ⊢
        refine List.ext_getElem? fun i => ?_
        by_cases hi : i < n
        · rw [List.getElem?_take_of_lt hi, cellsOf_get hi]
          by_cases him : i < m
          · rw [List.getElem?_append_left (by rw [hcl]; exact him), cellsOf_get him]; simp [copyF, him]
          · rw [List.getElem?_append_right (by rw [hcl]; omega), hcl, List.getElem?_drop, show m + (i - m) = i by omega]
            have e2 : cur.toList[i]? = (cur.toList.take n)[i]? := (List.getElem?_take_of_lt hi).symm
            rw [e2, ht, cellsOf_get hi]; simp [copyF, him]
        · rw [List.getElem?_eq_none (by rw [List.length_take]; omega), List.getElem?_eq_none (by rw [length_cellsOf]; omega)]

/-- One place turned. -/
def setF (j : Nat) (x : Int) (f : Nat → Int) (i : Nat) : Int := if i = j then x else f i
theorem Own.store {w : World} {B g n cap : Nat} {f : Nat → Int} (h : Own w B (.slice (some ⟨g, 0, none⟩) n cap) n f) (j : Nat) (x : Int) :
    Own (w.setCell ⟨g, j, none⟩ (.int .i64 x)) B (.slice (some ⟨g, 0, none⟩) n cap) n (setF j x f) := by
  have h1 := World.ownsRow.stored h j (.int .i64 x)
  unfold Own
  have e : (cellsOf n f).set j (.int .i64 x) = cellsOf n (setF j x f) := by
    refine List.ext_getElem? fun i => ?_
    by_cases hi : i < n
    · rw [cellsOf_get hi, List.getElem?_set]
      by_cases e : j = i
      · subst e; simp [setF, length_cellsOf, hi]
      · rw [if_neg e, cellsOf_get hi]; simp [setF, Ne.symm e]
    · rw [List.getElem?_eq_none (by rw [List.length_set, length_cellsOf]; omega), List.getElem?_eq_none (by rw [length_cellsOf]; omega)]
  rw [← e]
  exact h1.1

end
end Go.Proofs.Ytlcablkhomnieaa

/-
  Slices of whole numbers of any kind, as lists: how one reads in a world, one in memory of the call's own, append to it.
-/
namespace Go.Proofs.Ytlcablkhomnieaa
open Go.RowKit

/-- The slice with the address a reads in w as the list l of numbers of kind q. -/
def RdL (q : IntKind) (w : World) (a : Option Addr) (l : List Int) : Prop :=
  l.length = 0 ∨ ∃ b off, a = some ⟨b, off, none⟩ ∧ ∀ i, i < l.length → w.cell? ⟨b, off + i, none⟩ = some (.int q (l.getD i 0))

theorem RdL.nil (q : IntKind) (w : World) (a : Option Addr) : RdL q w a [] := .inl rfl
theorem RdL.at {q : IntKind} {w : World} {a : Option Addr} {l : List Int} (h : RdL q w a l) {i : Nat} (hi : i < l.length) :
    ∃ b off, a = some ⟨b, off, none⟩ ∧ ∀ j, j < l.length → w.cell? ⟨b, off + j, none⟩ = some (.int q (l.getD j 0)) := by
  rcases h with h | h
  · omega
  · exact h
theorem RdL.below {q : IntKind} {w w' : World} {a : Option Addr} {l : List Int} (h : RdL q w a l) (hb : Below w.heap.size w w') : RdL q w' a l := by
  rcases h with h | ⟨b, off, rfl, hc⟩
  · exact .inl h
  · refine .inr ⟨b, off, rfl, fun i hi => ?_⟩
    have := World.block_lt_of_cell? w _ (hc i hi)
    rw [hb.cell (by exact this)]
    exact hc i hi
theorem RdL.rd {w : World} {a : Option Addr} {l : List Int} (h : RdL .i64 w a l) : Rd w a l.length (fun i => l.getD i 0) := h
/-- The same, from block B on, where the slice lies below B. -/
theorem RdL.under {q : IntKind} {w w' : World} {B : Nat} {a : Option Addr} {l : List Int} (h : RdL q w a l) (hb : Below B w w') (hB : ∀ x, a = some x → x.block < B) : RdL q w' a l := by
  rcases h with h | ⟨b, off, rfl, hc⟩
  · exact .inl h
  · refine .inr ⟨b, off, rfl, fun i hi => ?_⟩
    have h1 := hB ⟨b, off, none⟩ rfl
    rw [hb.cell (by exact h1)]
    exact hc i hi

/-- What the program says of an element type and its slices. -/
structure Elt (q : IntKind) (t st : TypeId) (k : Nat) : Prop where
  und : Try.prog.underlying st = some (.slice t)
  info : (Try.prog.info? t).map (fun i => (i.zero, i.size, i.bytes)) = some (some (.int q 0), 1, k)
  pos : 1 ≤ k

theorem eInt : Elt .i64 3 29 8 := ⟨Try.underlying29, by kernel_rfl, by decide⟩

/-- The value v is a slice in memory of the call's own (from block B on), and reads as l. -/
def OwnL (q : IntKind) (t : TypeId) (w : World) (B : Nat) (v : Value) (l : List Int) : Prop := w.ownsRow B t 1 v l.length (l.map (Value.int q))

theorem OwnL.nil (q : IntKind) (t : TypeId) (w : World) (B : Nat) : OwnL q t w B (.slice none 0 0) [] := World.ownsRow_nil _ _ _ _
theorem OwnL.drew {q : IntKind} {t : TypeId} {w : World} {B : Nat} {v : Value} {l : List Int} (h : OwnL q t w B v l) : OwnL q t w.drew B v l := World.ownsRow.drew h
theorem OwnL.alloc {q : IntKind} {t : TypeId} {w : World} {B : Nat} {v : Value} {l : List Int} (h : OwnL q t w B v l) (o : Obj) : OwnL q t (w.alloc o) B v l := World.ownsRow.alloc h o

theorem map_getD {q : IntKind} {l : List Int} {i : Nat} (h : i < l.length) : (l.map (Value.int q))[i]? = some (.int q (l.getD i 0)) := by
  simp [h]

theorem OwnL.shape {q : IntKind} {t : TypeId} {w : World} {B : Nat} {v : Value} {l : List Int} (h : OwnL q t w B v l) :
    ∃ a c, v = .slice a l.length c ∧ (a = none → l.length = 0 ∧ c = 0) ∧ l.length ≤ c ∧ c ≤ maxLen ∧ RdL q w a l ∧ (∀ x, a = some x → B ≤ x.block ∧ x.block < w.heap.size) := by
  have hlt := World.ownsRow.lt h
  obtain ⟨h1, h2⟩ := id h
  rcases h2 with ⟨rfl, h0⟩ | ⟨g, cap, cur, rfl, hg, hcell, hnc, hm, hs, ht⟩
  · exact ⟨none, 0, by rw [h0], fun _ => ⟨h0, rfl⟩, by omega, Nat.zero_le _, .inl h0, fun x hx => by cases hx⟩
  · refine ⟨_, _, rfl, (fun h => by cases h), hnc, hm, .inr ⟨g, 0, rfl, fun i hi => ?_⟩, fun x hx => ?_⟩
    · have := World.ownsRow.cellAt h i (by omega)
      rw [map_getD hi] at this
      simpa using this
    · cases hx
      exact hlt g rfl

theorem OwnL.grown {q : IntKind} {t : TypeId} {w w' : World} {B : Nat} {v : Value} {l : List Int} (h : OwnL q t w B v l) (hb : Below w.heap.size w w') : OwnL q t w' B v l := by
  have hlt := World.ownsRow.lt h
  refine World.ownsRow.kept (row := none) h ⟨hb.os, hb.tape, hb.output, hb.size, fun i hi _ => hb.block i hi⟩ ?_
  cases v.ownBlock <;> simp

/-- A literal. -/
theorem OwnL.lit {q : IntKind} {t : TypeId} (w : World) (B : Nat) (l : List Int) (cs : Array Value) (hb : B ≤ w.heap.size) (hm : l.length ≤ maxLen) (hc : cs.toList = l.map (Value.int q)) :
    OwnL q t (w.alloc (.cells cs t)) B (.slice (some ⟨w.heap.size, 0, none⟩) l.length l.length) l := by
  unfold OwnL
  rw [← hc]
  have hs : cs.size = l.length := by rw [← Array.length_toList, hc, List.length_map]
  exact World.ownsRow_lit w cs l.length hb hm (by omega)
theorem RdL.lit {q : IntKind} {t : TypeId} (w : World) (l : List Int) (cs : Array Value) (hm : l.length ≤ maxLen) (hc : cs.toList = l.map (Value.int q)) :
    RdL q (w.alloc (.cells cs t)) (some ⟨w.heap.size, 0, none⟩) l := by
  obtain ⟨a, c, e, _, _, _, h, _⟩ := (OwnL.lit w w.heap.size l cs (Nat.le_refl _) hm hc).shape
  cases e
  exact h
theorem RdL.one {q : IntKind} {t : TypeId} (w : World) (x : Int) : RdL q (w.alloc (.cells #[.int q x] t)) (some ⟨w.heap.size, 0, none⟩) [x] :=
  RdL.lit w [x] _ (by unfold maxLen; simp) rfl

section
variable {w : World} {ops : Array Oper} {rest : List Oper} {o : Oper} {a : Act} {Q : Exit → Act → World → Prop}

/-- append(s, x...), s the call's own. -/
theorem wpl_pushL {q : IntKind} {t st : TypeId} {k : Nat} (E : Elt q t st k) (hgd : o.guard = none) (s x : Operand) (ho : o.op = .call { callee := .builtin .append, args := #[s, x], argTypes := #[st, st] })
    (B : Nat) (v : Value) (l : List Int) (hs : a.eval s = v) (hown : OwnL q t w B v l)
    (ao : Option Addr) (c : Nat) (m : List Int) (hx : a.eval x = .slice ao m.length c) (hrd : RdL q w ao m) (hnil : ao = none → m.length = 0 ∧ c = 0)
    (hbytes : (l.length + m.length) * k ≤ 140737488355328) (hbase : B ≤ w.heap.size)
    (h : ∀ v' w', OwnL q t w' B v' (l ++ m) → Below B w w' → w.grownBy w' v.ownBlock → wpList Try.prog ops Q rest (a.put o.dst v') w') :
    wpList Try.prog ops Q (o :: rest) a w := by
  obtain ⟨i, hi, hz0, hz1, hz2⟩ := info_parts E.info
  have hk := E.pos
  have hlen : l.length + m.length ≤ maxLen := by
    have : (l.length + m.length) * 1 ≤ (l.length + m.length) * k := Nat.mul_le_mul_left _ hk
    unfold maxLen; omega
  cases ao with
  | none =>
    obtain ⟨h0, rfl⟩ := hnil rfl
    have hm : m = [] := List.length_eq_zero_iff.1 h0
    subst hm
    refine wpList_append_own_none hgd s x st ho B t i 1 E.und hi v l.length (l.map (Value.int q)) hs hown hx ?_
    refine h v w ?_ (Below.refl _ _) ⟨rfl, rfl, rfl, Nat.le_refl _, fun _ _ _ => rfl⟩
    rw [List.append_nil]; exact hown
  | some ad =>
    refine wpList_append_own w hgd s x st ho B t i (.int q 0) 1 k E.und hi hz0 hz1 hz2 rfl (by decide) v l.length (l.map (Value.int q)) hs hown ad m.length c (m.map (Value.int q)) hx (by simp) ?_ ?_ hlen hbytes hbase ?_
    · intro j u hj
      have hjm : j < m.length := by
        have := (List.getElem?_eq_some_iff.1 hj).1
        rwa [List.length_map] at this
      rw [map_getD hjm] at hj
      obtain ⟨b, off, e, hc⟩ := hrd.at hjm
      cases e
      rw [← hj]
      rw [add_at]; exact hc j hjm
    · intro u hu
      simp at hu
      obtain ⟨z, _, rfl⟩ := hu
      rfl
    · intro v' w' h1 h2 _
      have hlt := World.ownsRow.lt hown
      refine h v' w' ?_ ((Below.refl B w).grown h2 hbase fun k hk => (hlt k hk).1) h2
      unfold OwnL; rw [List.length_append, List.map_append]; exact h1

/-- make([]T, 0, n). -/
theorem wpl_roomL {q : IntKind} {t st : TypeId} {k : Nat} (E : Elt q t st k) (hgd : o.guard = none) (l c : Operand) (ho : o.op = Op.makeSlice st l c) (B : Nat) (C : Int) (n : Nat)
    (hl : a.eval l = .int .i64 0) (hc : a.eval c = .int .i64 C) (hC : C = (n : Int)) (hbytes : k * n ≤ 140737488355328) (hbase : B ≤ w.heap.size)
    (h : ∀ w', OwnL q t w' B (.slice (some ⟨w.heap.size, 0, none⟩) 0 n) [] → Below B w w' → wpList Try.prog ops Q rest (a.put o.dst (.slice (some ⟨w.heap.size, 0, none⟩) 0 n)) w') :
    wpList Try.prog ops Q (o :: rest) a w := by
  obtain ⟨i, hi, hz0, hz1, hz2⟩ := info_parts E.info
  have hk := E.pos
  have hlen : n ≤ maxLen := by
    have : 1 * n ≤ k * n := Nat.mul_le_mul_right _ hk
    unfold maxLen; omega
  refine wpList_make_own w hgd l c st ho B t i (.int q 0) 1 E.und hi hz0 hz1 .i64 .i64 C n hl hc hC (by rw [hz2]; omega) hlen hbase ?_
  intro w' h1 h2
  exact h w' h1 ((Below.refl B w).grown h2 hbase fun k hk => by cases hk)
end

/-- The base of what is owned, lowered. -/
theorem OwnL.mono {q : IntKind} {t : TypeId} {w : World} {B B' : Nat} {v : Value} {l : List Int} (h : OwnL q t w B v l) (hb : B' ≤ B) : OwnL q t w B' v l := by
  obtain ⟨h1, h2⟩ := h
  refine ⟨h1, ?_⟩
  rcases h2 with h | ⟨g, cap, cur, e, hg, r⟩
  · exact .inl h
  · exact .inr ⟨g, cap, cur, e, Nat.le_trans hb hg, r⟩

end Go.Proofs.Ytlcablkhomnieaa

/-
  More on slices of whole numbers as lists: one that has an element; a store into one of the call's own.
-/
namespace Go.Proofs.Ytlcablkhomnieaa
open Go.RowKit

theorem OwnL.pos {q : IntKind} {t : TypeId} {w : World} {B : Nat} {v : Value} {l : List Int} (h : OwnL q t w B v l) (hn : 0 < l.length) :
    ∃ g cap, v = .slice (some ⟨g, 0, none⟩) l.length cap ∧ l.length ≤ cap ∧ cap ≤ maxLen ∧ B ≤ g ∧ g < w.heap.size ∧ (∀ i, i < l.length → w.cell? ⟨g, i, none⟩ = some (.int q (l.getD i 0))) ∧ (∀ i, w.frozen? ⟨g, i, none⟩ = false) := by
  have hlt := World.ownsRow.lt h
  obtain ⟨h1, h2⟩ := id h
  rcases h2 with ⟨rfl, h0⟩ | ⟨g, cap, cur, rfl, hg, hcell, hnc, hm, hs, ht⟩
  · omega
  · refine ⟨g, cap, rfl, hnc, hm, hg, (hlt g rfl).2, fun i hi => ?_, fun i => World.ownsRow.frozenAt h i⟩
    have := World.ownsRow.cellAt h i (by omega)
    rw [map_getD hi] at this
    exact this

theorem OwnL.store {q : IntKind} {t : TypeId} {w : World} {B g cap : Nat} {l : List Int} (h : OwnL q t w B (.slice (some ⟨g, 0, none⟩) l.length cap) l) (j : Nat) (x : Int) :
    OwnL q t (w.setCell ⟨g, j, none⟩ (.int q x)) B (.slice (some ⟨g, 0, none⟩) l.length cap) (l.set j x) := by
  have h1 := World.ownsRow.stored h j (.int q x)
  unfold OwnL
  rw [List.length_set, List.map_set]
  exact h1.1

/-- What is owned stays where its block stays. -/
theorem OwnL.keep {q : IntKind} {t : TypeId} {w w' : World} {B : Nat} {v : Value} {l : List Int} (h : OwnL q t w B v l) (k : ∀ b, v.ownBlock = some b → w'.heap[b]? = w.heap[b]?) : OwnL q t w' B v l := by
  obtain ⟨h1, h2⟩ := h
  refine ⟨h1, ?_⟩
  rcases h2 with h2 | ⟨g, cap, cur, rfl, hg, hcell, rest⟩
  · exact .inl h2
  · exact .inr ⟨g, cap, cur, rfl, hg, by rw [k g rfl]; exact hcell, rest⟩
theorem OwnL.lt {q : IntKind} {t : TypeId} {w : World} {B : Nat} {v : Value} {l : List Int} (h : OwnL q t w B v l) {b : Nat} (e : v.ownBlock = some b) : B ≤ b ∧ b < w.heap.size := World.ownsRow.lt h b e

end Go.Proofs.Ytlcablkhomnieaa

/-
  Whether two lists of ints are the same: the reference's Same.
-/
namespace Go.Proofs.Ytlcablkhomnieaa
open Go.RowKit

theorem take_at {l : List Int} {j : Nat} (h : j < l.length) : l.take (j + 1) = l.take j ++ [l.getD j 0] := by
  rw [List.take_add_one]; simp [h]

theorem drop_at {l : List Int} {j : Nat} (h : j < l.length) : l.drop j = l.getD j 0 :: l.drop (j + 1) := by
  rw [List.drop_eq_getElem_cons h]; simp [h]

theorem same_list (a a' : Option Addr) (c c' : Nat) (l l' : List Int) (w : World) (hr : RdL .i64 w a l) (hr' : RdL .i64 w a' l') (hn : l.length ≤ maxLen) :
    Calls Try.prog 23 #[.slice a l.length c, .slice a' l'.length c'] w fun e w' => e = .returned (.bool (decide (l = l'))) ∧ Below w.heap.size w w' := by
  unfold maxLen at hn
  by_cases hl : l.length = l'.length
  · have hne : ((l.length : Int) != (l'.length : Int)) = false := by simp [hl]
    go_enter Try.func23, Try.ntmps23
    go_wp2
    go_loopw [5] (fun i wr => ∃ j : Nat, j ≤ l.length ∧ i = .int .i64 j ∧ Hid (l.take j = l'.take j) ∧ Below w.heap.size w wr) (fun i _ => l.length - (intOf i).toNat)
    case atStart => exact ⟨0, Nat.zero_le _, rfl, hide rfl, Below.refl _ _⟩
    case round =>
      obtain ⟨j, hj, rfl, HG, hb⟩ := hrel
      by_cases hlt : j < l.length
      · obtain ⟨b, off, rfl, hc⟩ := (hr.below hb).at hlt
        obtain ⟨b', off', rfl, hc'⟩ := (hr'.below hb).at (i := j) (by omega)
        have hcj := hc j hlt
        have hcj' := hc' j (by omega)
        have hlt' : (j : Int) < (l.length : Int) := by omega
        have hlt2 : (j : Int) < (l'.length : Int) := by omega
        have HS := hide (take_at hlt)
        have HS' := hide (take_at (l := l') (j := j) (by omega))
        have HO := hide (fun (e : l = l') => show l.getD j 0 = l'.getD j 0 by rw [e])
        clear hc hc'
        generalize l.getD j 0 = x at *
        generalize l'.getD j 0 = y at *
        by_cases h1 : x = y
        · have ht : (x != y) = false := by simpa using h1
          have HE := hide h1
          clear h1
          go_wp2
          go_quiet (fail)
          go_wp2
          go_roundw
          case rel => exact ⟨j + 1, by omega, by go_num, hide (by rw [unhide HS, unhide HS', unhide HG, unhide HE]), below_drewN hb _⟩
          case measure => simp [intOf]; omega
        · have ht : (x != y) = true := by simpa using h1
          have HE := hide h1
          clear h1
          go_wp2
          go_quiet (fail)
          go_wp2
          go_ret
          exact ⟨ret_bool (decide_eq_false fun e => unhide HE (unhide HO e)).symm, below_drewN hb _⟩
      · have he : j = l.length := by omega
        subst he
        go_wp2
        go_ret
        refine ⟨ret_bool (decide_eq_true ?_).symm, hb⟩
        have h := unhide HG
        rwa [List.take_length, hl, List.take_length] at h
  · have hne : ((l.length : Int) != (l'.length : Int)) = true := by simp; omega
    go_enter Try.func23, Try.ntmps23
    go_wp2
    go_ret
    exact ⟨ret_bool (decide_eq_false fun e => hl (by rw [e])).symm, Below.refl _ _⟩

end Go.Proofs.Ytlcablkhomnieaa

/-
  Two small words on lists that are put together.
-/
namespace Go.Proofs.Ytlcablkhomnieaa
open Go.RowKit

theorem getD_app_left {l m : List Int} {i : Nat} (h : i < l.length) : (l ++ m).getD i 0 = l.getD i 0 := by
  simp only [List.getD, List.getElem?_append_left h]
theorem getD_app_right {l m : List Int} {i : Nat} : (l ++ m).getD (l.length + i) 0 = m.getD i 0 := by
  simp only [List.getD, List.getElem?_append_right (Nat.le_add_right _ _), Nat.add_sub_cancel_left]

end Go.Proofs.Ytlcablkhomnieaa

/-
  A slice of ints of the call's own: by a list, by a function.
-/
namespace Go.Proofs.Ytlcablkhomnieaa
open Go.RowKit

theorem own_of_list {w : World} {B : Nat} {v : Value} {l : List Int} (h : OwnL .i64 3 w B v l) : Own w B v l.length (fun i => l.getD i 0) := by
  have e : l.map (Value.int .i64) = cellsOf l.length (fun i => l.getD i 0) := by
    refine List.ext_getElem? fun i => ?_
    by_cases hi : i < l.length
    · rw [map_getD hi, cellsOf_get hi]
    · rw [List.getElem?_eq_none (by rw [List.length_map]; omega), List.getElem?_eq_none (by rw [length_cellsOf]; omega)]
  unfold Own; rw [← e]; exact h
theorem list_of_own {w : World} {B : Nat} {v : Value} {l : List Int} (h : Own w B v l.length (fun i => l.getD i 0)) : OwnL .i64 3 w B v l := by
  have e : l.map (Value.int .i64) = cellsOf l.length (fun i => l.getD i 0) := by
    refine List.ext_getElem? fun i => ?_
    by_cases hi : i < l.length
    · rw [map_getD hi, cellsOf_get hi]
    · rw [List.getElem?_eq_none (by rw [List.length_map]; omega), List.getElem?_eq_none (by rw [length_cellsOf]; omega)]
  unfold OwnL; rw [e]; exact h

end Go.Proofs.Ytlcablkhomnieaa

/-
  append to a slice of the call's own, with where the new row lies: in a walk, and as one step of a statement whose order is open.
-/
namespace Go.Proofs.Ytlcablkhomnieaa
open Go.RowKit

theorem run_pushA {q : IntKind} {t st : TypeId} {k : Nat} {w : World} (E : Elt q t st k) (ty : TypeId) (B : Nat) (v : Value) (l : List Int) (hown : OwnL q t w B v l)
    (ad : Addr) (c : Nat) (m : List Int) (hrd : RdL q w (some ad) m) (hbytes : (l.length + m.length) * k ≤ 140737488355328) (hbase : B ≤ w.heap.size) :
    ∃ v' w', (Builtin.append_ #[st, st] ty #[v, .slice (some ad) m.length c]).run Try.prog w = .ok v' w' ∧ OwnL q t w' B v' (l ++ m) ∧ Below B w w' ∧ w.grownBy w' v.ownBlock ∧ (∀ i, v'.ownBlock = some i → v.ownBlock = some i ∨ i = w.heap.size) := by
  obtain ⟨i, hi, hz0, hz1, hz2⟩ := info_parts E.info
  have hk := E.pos
  have hlen : l.length + m.length ≤ maxLen := by
    have : (l.length + m.length) * 1 ≤ (l.length + m.length) * k := Nat.mul_le_mul_left _ hk
    unfold maxLen; omega
  have hlt := World.ownsRow.lt hown
  obtain ⟨v', w', hrun, r1, r2, _, r4⟩ := run_append_own_at (P := Try.prog) w B st ty t i (.int q 0) 1 k E.und hi hz0 hz1 hz2 rfl (by decide) v l.length (l.map (Value.int q)) hown ad m.length c (m.map (Value.int q)) (by simp) (fun j u hj => by
      have hjm : j < m.length := by
        have := (List.getElem?_eq_some_iff.1 hj).1
        rwa [List.length_map] at this
      rw [map_getD hjm] at hj
      obtain ⟨b, off, e, hc⟩ := hrd.at hjm
      cases e
      rw [← hj]
      rw [add_at]; exact hc j hjm) (fun u hu => by
      simp at hu
      obtain ⟨z, _, rfl⟩ := hu
      rfl) hlen hbytes hbase
  refine ⟨v', w', hrun, ?_, (Below.refl B w).grown r2 hbase fun k hk => (hlt k hk).1, r2, fun i hi => ?_⟩
  · unfold OwnL; rw [List.length_append, List.map_append]; exact r1
  · rcases r4 with r4 | r4
    · exact .inl (r4 ▸ hi)
    · rw [r4] at hi; cases hi; exact .inr rfl

theorem step_pushA {q : IntKind} {t st : TypeId} {k : Nat} {ops : Array Oper} {o : Oper} {a : Act} {w : World} {K : Act → World → Prop} {Q : Exit → Act → World → Prop} {F : Prop} (E : Elt q t st k)
    (hg : o.guard = none) (s x : Operand) (ho : o.op = .call { callee := .builtin .append, args := #[s, x], argTypes := #[st, st] })
    (B : Nat) (v : Value) (l : List Int) (hs : a.eval s = v) (hown : OwnL q t w B v l)
    (ad : Addr) (c : Nat) (m : List Int) (hx : a.eval x = .slice (some ad) m.length c) (hrd : RdL q w (some ad) m)
    (hbytes : (l.length + m.length) * k ≤ 140737488355328) (hbase : B ≤ w.heap.size)
    (h : ∀ v' w', OwnL q t w' B v' (l ++ m) → Below B w w' → w.grownBy w' v.ownBlock → (∀ i, v'.ownBlock = some i → v.ownBlock = some i ∨ i = w.heap.size) → K (a.put o.dst v') w') :
    if Region.wanted o (yielded ops a.tmps) = true then Oper.wp Try.prog o a w K Q else F := by
  have hw : Region.wanted o (yielded ops a.tmps) = true := by simp [Region.wanted, hg]
  rw [if_pos hw]
  obtain ⟨v', w', hrun, r1, r2, r3, r4⟩ := run_pushA (w := w) E o.type B v l hown ad c m hrd hbytes hbase
  unfold Oper.wp
  simp [execOp, ho, resolve, invoke, builtin, hs, hx, hrun, Result.andThen]
  exact h v' w' r1 r2 r3 r4

section
variable {w : World} {ops : Array Oper} {rest : List Oper} {o : Oper} {a : Act} {Q : Exit → Act → World → Prop}
theorem wpl_pushA {q : IntKind} {t st : TypeId} {k : Nat} (E : Elt q t st k) (hgd : o.guard = none) (s x : Operand) (ho : o.op = .call { callee := .builtin .append, args := #[s, x], argTypes := #[st, st] })
    (B : Nat) (v : Value) (l : List Int) (hs : a.eval s = v) (hown : OwnL q t w B v l)
    (ad : Addr) (c : Nat) (m : List Int) (hx : a.eval x = .slice (some ad) m.length c) (hrd : RdL q w (some ad) m)
    (hbytes : (l.length + m.length) * k ≤ 140737488355328) (hbase : B ≤ w.heap.size)
    (h : ∀ v' w', OwnL q t w' B v' (l ++ m) → Below B w w' → w.grownBy w' v.ownBlock → (∀ i, v'.ownBlock = some i → v.ownBlock = some i ∨ i = w.heap.size) → wpList Try.prog ops Q rest (a.put o.dst v') w') :
    wpList Try.prog ops Q (o :: rest) a w := by
  refine wpList_plain hgd fun K hK => ?_
  obtain ⟨v', w', hrun, r1, r2, r3, r4⟩ := run_pushA (w := w) E o.type B v l hown ad c m hrd hbytes hbase
  unfold Oper.wp
  simp [execOp, ho, resolve, invoke, builtin, hs, hx, hrun, Result.andThen]
  exact hK _ _ (h v' w' r1 r2 r3 r4)
end
end Go.Proofs.Ytlcablkhomnieaa

/-
  A map of the places of numbers in a row.
-/
namespace Go.Proofs.Ytlcablkhomnieaa
open Go.RowKit Go.Maps

theorem keyed64 : Keyed Try.prog 3 := int_keyed Try.underlying3
theorem zeroInt (w : World) : (zeroValue 3).run Try.prog w = .ok (.int .i64 0) w := Try.zeroValue3 w
theorem key64 {x : Int} (h0 : -1099511627776 ≤ x) (h1 : x ≤ 1099511627776) : keyOf Try.prog 3 (.int .i64 x) = some (.int .i64 x) := keyOf_int_mk Try.underlying3 (WalkArith.wf_i64 (by omega))
theorem lit_ne {r x : Int} (h : r ≠ x) : (Lit.int .i64 r) ≠ Lit.int .i64 x := by intro e; cases e; exact h rfl

/-- The map says of each state of S its place. -/
def Says (D : DataW Unit) (S : List Int) : Prop :=
  ∀ r, Maps.has D (.int .i64 r) = decide (r ∈ S) ∧ (r ∈ S → D.atKey (.int .i64 r) (.lit (.int .i64 0)) = .lit (.int .i64 (S.idxOf r : Nat)))
def NMap (w : World) (b : Nat) (S : List Int) : Prop :=
  ∃ (n : Nat) (D : DataW Unit), w.ownsMap Try.prog 3 (plainElem Try.prog 3) b n D ∧ n ≤ S.length ∧ Says D S
theorem Says.nil : Says (.map []) [] := fun r => ⟨by simp [Maps.has], fun h => by simp at h⟩
theorem Says.new {D : DataW Unit} {S : List Int} {x : Int} (h : Says D S) (hx : ¬ x ∈ S) (hD : IsMap D) (hk : WideAt.IsKeyLit (.int .i64 x)) :
    Says (D.put (.int .i64 x) (.lit (.int .i64 S.length))) (S ++ [x]) := by
  intro r
  obtain ⟨h1, h2⟩ := h r
  by_cases e : x = r
  · subst e
    rw [has_put_same hD hk, atKey_put_same hD hk]
    refine ⟨by simp, fun _ => ?_⟩
    rw [List.idxOf_append, if_neg hx]
    simp
  · rw [has_put_other (lit_ne (Ne.symm e)), atKey_put_other (lit_ne (Ne.symm e)), h1]
    have e2 : r ∈ S ++ [x] ↔ r ∈ S := by simp; intro h; exact absurd h.symm e
    refine ⟨by simp only [e2], fun h3 => ?_⟩
    have h4 := e2.1 h3
    rw [h2 h4, List.idxOf_append, if_pos h4]
theorem NMap.keep {w w' : World} {b : Nat} {S : List Int} (h : NMap w b S) (e : w'.heap[b]? = w.heap[b]?) : NMap w' b S := by
  obtain ⟨n, D, ⟨es, clock, hb, F, hs, hD⟩, hn, hsay⟩ := h
  exact ⟨n, D, ⟨es, clock, e.trans hb, F, hs, hD⟩, hn, hsay⟩
theorem NMap.lt {w : World} {b : Nat} {S : List Int} (h : NMap w b S) : b < w.heap.size := by
  obtain ⟨n, D, ho, _, _⟩ := h
  exact ho.lt
theorem NMap.below {w w' : World} {b : Nat} {S : List Int} (h : NMap w b S) (hb : Below w.heap.size w w') : NMap w' b S := h.keep (hb.block b h.lt)
theorem NMap.draws {w : World} {g : Nat} {S : List Int} (h : NMap w g S) (q : Nat) : NMap (w.drewN q) g S := h.keep rfl

end Go.Proofs.Ytlcablkhomnieaa

/-
  append to a slice of the call's own, as one step of a statement whose order is open.
-/
namespace Go.Proofs.Ytlcablkhomnieaa
open Go.RowKit

theorem step_pushL {q : IntKind} {t st : TypeId} {k : Nat} {ops : Array Oper} {o : Oper} {a : Act} {w : World} {K : Act → World → Prop} {Q : Exit → Act → World → Prop} {F : Prop} (E : Elt q t st k)
    (hg : o.guard = none) (s x : Operand) (ho : o.op = .call { callee := .builtin .append, args := #[s, x], argTypes := #[st, st] })
    (B : Nat) (v : Value) (l : List Int) (hs : a.eval s = v) (hown : OwnL q t w B v l)
    (ad : Addr) (c : Nat) (m : List Int) (hx : a.eval x = .slice (some ad) m.length c) (hrd : RdL q w (some ad) m)
    (hbytes : (l.length + m.length) * k ≤ 140737488355328) (hbase : B ≤ w.heap.size)
    (h : ∀ v' w', OwnL q t w' B v' (l ++ m) → Below B w w' → K (a.put o.dst v') w') :
    if Region.wanted o (yielded ops a.tmps) = true then Oper.wp Try.prog o a w K Q else F := by
  have hw : Region.wanted o (yielded ops a.tmps) = true := by simp [Region.wanted, hg]
  rw [if_pos hw]
  obtain ⟨i, hi, hz0, hz1, hz2⟩ := info_parts E.info
  have hk := E.pos
  have hlen : l.length + m.length ≤ maxLen := by
    have : (l.length + m.length) * 1 ≤ (l.length + m.length) * k := Nat.mul_le_mul_left _ hk
    unfold maxLen; omega
  have hlt := World.ownsRow.lt hown
  obtain ⟨v', w', hrun, r1, r2, _⟩ := run_append_own (P := Try.prog) w B st o.type t i (.int q 0) 1 k E.und hi hz0 hz1 hz2 rfl (by decide) v l.length (l.map (Value.int q)) hown ad m.length c (m.map (Value.int q)) (by simp) (fun j u hj => by
      have hjm : j < m.length := by
        have := (List.getElem?_eq_some_iff.1 hj).1
        rwa [List.length_map] at this
      rw [map_getD hjm] at hj
      obtain ⟨b, off, e, hc⟩ := hrd.at hjm
      cases e
      rw [← hj]
      rw [add_at]; exact hc j hjm) (fun u hu => by
      simp at hu
      obtain ⟨z, _, rfl⟩ := hu
      rfl) hlen hbytes hbase
  unfold Oper.wp
  simp [execOp, ho, resolve, invoke, builtin, hs, hx, hrun, Result.andThen]
  refine h v' w' ?_ ((Below.refl B w).grown r2 hbase fun k hk => (hlt k hk).1)
  unfold OwnL; rw [List.length_append, List.map_append]; exact r1

end Go.Proofs.Ytlcablkhomnieaa

/-
  What the reference's Join returns, for two lists that are not too long together; with lists.
-/
namespace Go.Proofs.Ytlcablkhomnieaa
open Go.RowKit

theorem join_list (a : Option Addr) (c : Nat) (l : List Int) (a' : Option Addr) (c' : Nat) (l' : List Int) (w : World) (hr : RdL .i64 w a l) (hnil : a = none → l.length = 0 ∧ c = 0) (hr' : RdL .i64 w a' l') (hnil' : a' = none → l'.length = 0 ∧ c' = 0)
    (hn : (l.length + l'.length) * 8 ≤ 140737488355328) :
    Calls Try.prog 51 #[.slice a l.length c, .slice a' l'.length c'] w fun e w' => ∃ v, e = .returned v ∧ OwnL .i64 3 w' w.heap.size v (l ++ l') ∧ Below w.heap.size w w' := by
  have h0 : OwnL .i64 3 (w.alloc (.cells #[] 3)) w.heap.size (.slice (some ⟨w.heap.size, 0, none⟩) 0 0) [] := OwnL.lit w _ [] #[] (Nat.le_refl _) (by unfold maxLen; simp) rfl
  have hb0 : Below w.heap.size w (w.alloc (.cells #[] 3)) := (Below.refl _ _).alloc (Nat.le_refl _) _
  go_enter Try.func51, Try.ntmps51
  go_wp2_with (first | (at_builtin; refine wpl_pushL eInt rfl (.tmp 5) (.tmp 6) rfl w.heap.size _ [] rfl h0 a c l rfl (hr.below hb0) hnil (by simp only [List.length_nil]; omega) (by simp) ?_; rw [List.nil_append]; intro v1 w1 hown1 hb1 _) | (at_builtin; refine wpl_pushL eInt rfl (.tmp 7) (.tmp 8) rfl w.heap.size v1 l rfl hown1 a' c' l' rfl (hr'.below (hb0.trans hb1)) hnil' (by omega) (by have := hb1.size; simp at this ⊢; omega) ?_; intro v2 w2 hown2 hb2 _))
  go_ret
  exact ⟨_, rfl, hown2, (hb0.trans hb1).trans hb2⟩

end Go.Proofs.Ytlcablkhomnieaa

/-
  Slices of slices of ints: how they read, families of lists in memory of their own, append, make and stores.
-/
namespace Go.Proofs.Ytlcablkhomnieaa
open Go.RowKit

theorem infoInts : (Try.prog.info? 29).map (fun i => (i.zero, i.size, i.bytes)) = some (some (.slice none 0 0), 1, 24) := by kernel_rfl

/-- The slice of slices at the address a, with n elements, reads in w as the values vs 0, .., vs (n - 1). -/
def RdV (w : World) (a : Option Addr) (n : Nat) (vs : Nat → Value) : Prop :=
  n = 0 ∨ ∃ b off, a = some ⟨b, off, none⟩ ∧ ∀ i, i < n → w.cell? ⟨b, off + i, none⟩ = some (vs i)
theorem RdV.at {w : World} {a : Option Addr} {n : Nat} {vs : Nat → Value} (h : RdV w a n vs) {i : Nat} (hi : i < n) :
    ∃ b off, a = some ⟨b, off, none⟩ ∧ ∀ j, j < n → w.cell? ⟨b, off + j, none⟩ = some (vs j) := by
  rcases h with h | h
  · omega
  · exact h
theorem RdV.below {w w' : World} {a : Option Addr} {n : Nat} {vs : Nat → Value} (h : RdV w a n vs) (hb : Below w.heap.size w w') : RdV w' a n vs := by
  rcases h with h | ⟨b, off, rfl, hc⟩
  · exact .inl h
  · refine .inr ⟨b, off, rfl, fun i hi => ?_⟩
    have := World.block_lt_of_cell? w _ (hc i hi)
    rw [hb.cell (by exact this)]
    exact hc i hi

def cellsV (n : Nat) (vs : Nat → Value) : List Value := (List.range n).map vs
theorem length_cellsV (n : Nat) (vs : Nat → Value) : (cellsV n vs).length = n := by simp [cellsV]
theorem cellsV_get {n : Nat} {vs : Nat → Value} {i : Nat} (h : i < n) : (cellsV n vs)[i]? = some (vs i) := by simp [cellsV, h]
theorem cellsV_congr {n : Nat} {vs us : Nat → Value} (h : ∀ i, i < n → vs i = us i) : cellsV n vs = cellsV n us := by
  unfold cellsV; apply List.map_congr_left; intro i hi; rw [h i (by simpa using hi)]
theorem cellsV_one {n : Nat} {vs : Nat → Value} (h : ∀ i, i < n → ∃ a m c, vs i = .slice a m c) : ∀ u ∈ cellsV n vs, u.oneCell' = true := by
  intro u hu; simp [cellsV] at hu; obtain ⟨i, hi, rfl⟩ := hu; obtain ⟨a, m, c, e⟩ := h i hi; rw [e]; rfl
def joinV (n : Nat) (vs us : Nat → Value) (i : Nat) : Value := if i < n then vs i else us (i - n)
theorem joinV_lt {n i : Nat} {f g : Nat → Value} (h : i < n) : joinV n f g i = f i := by unfold joinV; rw [if_pos h]
theorem joinV_ge {n i : Nat} {f g : Nat → Value} (h : n ≤ i) : joinV n f g i = g (i - n) := by unfold joinV; rw [if_neg (by omega)]
theorem cellsV_join (n m : Nat) (f g : Nat → Value) : cellsV n f ++ cellsV m g = cellsV (n + m) (joinV n f g) := by
  refine List.ext_getElem? fun i => ?_
  by_cases h : i < n
  · rw [List.getElem?_append_left (by rw [length_cellsV]; exact h), cellsV_get h, cellsV_get (by omega), joinV_lt h]
  · rw [List.getElem?_append_right (by rw [length_cellsV]; omega), length_cellsV]
    by_cases h2 : i < n + m
    · rw [cellsV_get (by omega), cellsV_get h2, joinV_ge (by omega)]
    · rw [List.getElem?_eq_none (by rw [length_cellsV]; omega), List.getElem?_eq_none (by rw [length_cellsV]; omega)]

/-- A slice of slices in memory of the call's own. -/
def OwnV (w : World) (B : Nat) (v : Value) (n : Nat) (vs : Nat → Value) : Prop := w.ownsRow B 29 1 v n (cellsV n vs)
theorem OwnV.nil (w : World) (B : Nat) (vs : Nat → Value) : OwnV w B (.slice none 0 0) 0 vs := World.ownsRow_nil _ _ _ _
theorem OwnV.congr {w : World} {B n : Nat} {v : Value} {f g : Nat → Value} (h : OwnV w B v n f) (e : ∀ i, i < n → f i = g i) : OwnV w B v n g := by
  unfold OwnV; rw [← cellsV_congr e]; exact h
theorem OwnV.alloc {w : World} {B n : Nat} {v : Value} {f : Nat → Value} (h : OwnV w B v n f) (o : Obj) : OwnV (w.alloc o) B v n f := World.ownsRow.alloc h o
theorem OwnV.lt {w : World} {B n : Nat} {v : Value} {f : Nat → Value} (h : OwnV w B v n f) {b : Nat} (hb : v.ownBlock = some b) : B ≤ b ∧ b < w.heap.size := World.ownsRow.lt h b hb
theorem Own.lt {w : World} {B n : Nat} {v : Value} {f : Nat → Int} (h : Own w B v n f) {b : Nat} (hb : v.ownBlock = some b) : B ≤ b ∧ b < w.heap.size := World.ownsRow.lt h b hb

theorem ownsRow_keep {w w' : World} {B e n : Nat} {v : Value} {xs : List Value} (h : w.ownsRow B e 1 v n xs) (k : ∀ b, v.ownBlock = some b → w'.heap[b]? = w.heap[b]?) : w'.ownsRow B e 1 v n xs := by
  obtain ⟨h1, h2⟩ := h
  refine ⟨h1, ?_⟩
  rcases h2 with h2 | ⟨g, cap, cur, rfl, hg, hcell, rest⟩
  · exact .inl h2
  · exact .inr ⟨g, cap, cur, rfl, hg, by rw [k g rfl]; exact hcell, rest⟩
theorem Own.keep {w w' : World} {B n : Nat} {v : Value} {f : Nat → Int} (h : Own w B v n f) (k : ∀ b, v.ownBlock = some b → w'.heap[b]? = w.heap[b]?) : Own w' B v n f := ownsRow_keep h k
theorem OwnV.keep {w w' : World} {B n : Nat} {v : Value} {f : Nat → Value} (h : OwnV w B v n f) (k : ∀ b, v.ownBlock = some b → w'.heap[b]? = w.heap[b]?) : OwnV w' B v n f := ownsRow_keep h k
theorem Own.below {w w' : World} {B n : Nat} {v : Value} {f : Nat → Int} (h : Own w B v n f) (hb : Below w.heap.size w w') : Own w' B v n f := h.keep fun b e => hb.block b (h.lt e).2
theorem OwnV.below {w w' : World} {B n : Nat} {v : Value} {f : Nat → Value} (h : OwnV w B v n f) (hb : Below w.heap.size w w') : OwnV w' B v n f := h.keep fun b e => hb.block b (h.lt e).2
theorem ownsRow_base {w : World} {B B' e n : Nat} {v : Value} {xs : List Value} (h : w.ownsRow B e 1 v n xs) (hB : B' ≤ B) : w.ownsRow B' e 1 v n xs := by
  obtain ⟨h1, h2⟩ := h
  refine ⟨h1, ?_⟩
  rcases h2 with h2 | ⟨g, cap, cur, rfl, hg, rest⟩
  · exact .inl h2
  · exact .inr ⟨g, cap, cur, rfl, by omega, rest⟩
theorem Own.base {w : World} {B B' n : Nat} {v : Value} {f : Nat → Int} (h : Own w B v n f) (hB : B' ≤ B) : Own w B' v n f := ownsRow_base h hB
theorem OwnV.base {w : World} {B B' n : Nat} {v : Value} {f : Nat → Value} (h : OwnV w B v n f) (hB : B' ≤ B) : OwnV w B' v n f := ownsRow_base h hB

theorem OwnV.shape {w : World} {B n : Nat} {v : Value} {f : Nat → Value} (h : OwnV w B v n f) :
    ∃ a c, v = .slice a n c ∧ (a = none → n = 0 ∧ c = 0) ∧ n ≤ c ∧ RdV w a n f := by
  obtain ⟨h1, h2⟩ := id h
  rcases h2 with ⟨rfl, rfl⟩ | ⟨g, cap, cur, rfl, hg, hcell, hnc, hm, hs, ht⟩
  · exact ⟨none, 0, rfl, fun _ => ⟨rfl, rfl⟩, Nat.le_refl _, .inl rfl⟩
  · refine ⟨_, _, rfl, (fun h => by cases h), hnc, .inr ⟨g, 0, rfl, fun i hi => ?_⟩⟩
    have := World.ownsRow.cellAt h i (by omega)
    rw [cellsV_get hi] at this
    simpa using this
theorem OwnV.pos {w : World} {B n : Nat} {v : Value} {f : Nat → Value} (h : OwnV w B v n f) (hn : 0 < n) :
    ∃ g cap, v = .slice (some ⟨g, 0, none⟩) n cap ∧ n ≤ cap ∧ cap ≤ maxLen ∧ B ≤ g ∧ g < w.heap.size ∧ (∀ i, i < n → w.cell? ⟨g, i, none⟩ = some (f i)) ∧ (∀ i, w.frozen? ⟨g, i, none⟩ = false) := by
  have hlt := World.ownsRow.lt h
  obtain ⟨h1, h2⟩ := id h
  rcases h2 with ⟨rfl, rfl⟩ | ⟨g, cap, cur, rfl, hg, hcell, hnc, hm, hs, ht⟩
  · omega
  · refine ⟨g, cap, rfl, hnc, hm, hg, (hlt g rfl).2, fun i hi => ?_, fun i => World.ownsRow.frozenAt h i⟩
    have := World.ownsRow.cellAt h i (by omega)
    rw [cellsV_get hi] at this
    exact this

theorem RdV.lit (w : World) (n : Nat) (vs : Nat → Value) (cs : Array Value) (hm : n ≤ maxLen) (hc : cs.toList = cellsV n vs) :
    RdV (w.alloc (.cells cs 29)) (some ⟨w.heap.size, 0, none⟩) n vs := by
  have hs : cs.size = n := by rw [← Array.length_toList, hc, length_cellsV]
  have h : OwnV (w.alloc (.cells cs 29)) w.heap.size (.slice (some ⟨w.heap.size, 0, none⟩) n n) n vs := by
    unfold OwnV; rw [← hc]; exact World.ownsRow_lit w cs n (Nat.le_refl _) hm (by omega)
  obtain ⟨a, c, e, _, _, hx⟩ := h.shape
  cases e
  exact hx

def setV (j : Nat) (u : Value) (vs : Nat → Value) (i : Nat) : Value := if i = j then u else vs i
theorem setV_same {j : Nat} {u : Value} {vs : Nat → Value} : setV j u vs j = u := by simp [setV]
theorem setV_ne {i j : Nat} {u : Value} {vs : Nat → Value} (h : i ≠ j) : setV j u vs i = vs i := by simp [setV, h]
theorem OwnV.store {w : World} {B g n cap : Nat} {vs : Nat → Value} (h : OwnV w B (.slice (some ⟨g, 0, none⟩) n cap) n vs) (j : Nat) (u : Value) :
    OwnV (w.setCell ⟨g, j, none⟩ u) B (.slice (some ⟨g, 0, none⟩) n cap) n (setV j u vs) := by
  have h1 := World.ownsRow.stored h j u
  unfold OwnV
  have e : (cellsV n vs).set j u = cellsV n (setV j u vs) := by
    refine List.ext_getElem? fun i => ?_
    by_cases hi : i < n
    · rw [cellsV_get hi, List.getElem?_set]
      by_cases e : j = i
      · subst e; simp [setV, length_cellsV, hi]
      · rw [if_neg e, cellsV_get hi, setV_ne (Ne.symm e)]
    · rw [List.getElem?_eq_none (by rw [List.length_set, length_cellsV]; omega), List.getElem?_eq_none (by rw [length_cellsV]; omega)]
  rw [← e]
  exact h1.1

/-- N lists, each in memory of its own, no two in one block. -/
structure Fam (w : World) (B N : Nat) (vs : Nat → Value) (ns : Nat → Nat) (fs : Nat → Nat → Int) : Prop where
  own : ∀ i, i < N → Own w B (vs i) (ns i) (fs i)
  apart : ∀ i j, i < N → j < N → i ≠ j → ∀ b, (vs i).ownBlock = some b → (vs j).ownBlock ≠ some b
theorem Fam.keep {w w' : World} {B N : Nat} {vs : Nat → Value} {ns : Nat → Nat} {fs : Nat → Nat → Int} (h : Fam w B N vs ns fs) (k : ∀ i, i < N → ∀ b, (vs i).ownBlock = some b → w'.heap[b]? = w.heap[b]?) : Fam w' B N vs ns fs :=
  ⟨fun i hi => (h.own i hi).keep (k i hi), h.apart⟩
theorem Fam.below {w w' : World} {B N : Nat} {vs : Nat → Value} {ns : Nat → Nat} {fs : Nat → Nat → Int} (h : Fam w B N vs ns fs) (hb : Below w.heap.size w w') : Fam w' B N vs ns fs :=
  h.keep fun i hi b e => hb.block b ((h.own i hi).lt e).2
theorem Fam.congr {w : World} {B N : Nat} {vs : Nat → Value} {ns : Nat → Nat} {fs gs : Nat → Nat → Int} (h : Fam w B N vs ns fs) (e : ∀ i, i < N → ∀ j, j < ns i → fs i j = gs i j) : Fam w B N vs ns gs :=
  ⟨fun i hi => (h.own i hi).congr (e i hi), h.apart⟩
theorem Fam.zero (w : World) (B : Nat) (vs : Nat → Value) (ns : Nat → Nat) (fs : Nat → Nat → Int) : Fam w B 0 vs ns fs := ⟨fun i hi => by omega, fun i j hi => by omega⟩
theorem Fam.snoc {w : World} {B N : Nat} {vs : Nat → Value} {ns : Nat → Nat} {fs : Nat → Nat → Int} (h : Fam w B N vs ns fs) {u : Value} (hu : Own w B u (ns N) (fs N)) (ha : ∀ i, i < N → ∀ b, (vs i).ownBlock = some b → u.ownBlock ≠ some b) :
    Fam w B (N + 1) (setV N u vs) ns fs := by
  refine ⟨fun i hi => ?_, fun i j hi hj hne b hb => ?_⟩
  · by_cases e : i = N
    · subst e; rw [setV_same]; exact hu
    · rw [setV_ne e]; exact h.own i (by omega)
  · by_cases e : i = N
    · subst e
      rw [setV_same] at hb
      rw [setV_ne (Ne.symm hne)]
      intro hj2
      exact ha j (by omega) b hj2 hb
    · rw [setV_ne e] at hb
      by_cases e2 : j = N
      · subst e2; rw [setV_same]; exact ha i (by omega) b hb
      · rw [setV_ne e2]; exact h.apart i j (by omega) (by omega) hne b hb
theorem Fam.slices {w : World} {B N : Nat} {vs : Nat → Value} {ns : Nat → Nat} {fs : Nat → Nat → Int} (h : Fam w B N vs ns fs) : ∀ i, i < N → ∃ a m c, vs i = .slice a m c := fun i hi => by
  obtain ⟨a, c, e, _⟩ := (h.own i hi).shape
  exact ⟨a, _, c, e⟩

section
variable {w : World} {ops : Array Oper} {rest : List Oper} {o : Oper} {a : Act} {Q : Exit → Act → World → Prop}

/-- append(s, x...), s a slice of slices of the call's own. -/
theorem wplV_append (hgd : o.guard = none) (s x : Operand) (ho : o.op = .call { callee := .builtin .append, args := #[s, x], argTypes := #[32, 32] })
    (B : Nat) (v : Value) (n : Nat) (f : Nat → Value) (hs : a.eval s = v) (hown : OwnV w B v n f)
    (ad : Addr) (m c : Nat) (g : Nat → Value) (hx : a.eval x = .slice (some ad) m c) (hrd : RdV w (some ad) m g) (h1 : ∀ i, i < m → ∃ a k c, g i = .slice a k c)
    (hbytes : (n + m) * 24 ≤ 140737488355328) (hbase : B ≤ w.heap.size)
    (h : ∀ v' w', OwnV w' B v' (n + m) (joinV n f g) → Below B w w' → w.grownBy w' v.ownBlock → wpList Try.prog ops Q rest (a.put o.dst v') w') :
    wpList Try.prog ops Q (o :: rest) a w := by
  obtain ⟨i, hi, hz0, hz1, hz2⟩ := info_parts infoInts
  refine wpList_append_own w hgd s x 32 ho B 29 i (.slice none 0 0) 1 24 Try.underlying32 hi hz0 hz1 hz2 rfl (by decide) v n (cellsV n f) hs hown ad m c (cellsV m g) hx (by rw [length_cellsV]; omega) ?_ (cellsV_one h1) (by unfold maxLen; omega) hbytes hbase ?_
  · intro j u hj
    have hjm : j < m := by
      have := (List.getElem?_eq_some_iff.1 hj).1
      rwa [length_cellsV] at this
    rw [cellsV_get hjm] at hj
    obtain ⟨b, off, e, hc⟩ := hrd.at hjm
    cases e
    rw [← hj, add_at]
    exact hc j hjm
  · intro v' w' h1 h2 _
    have hlt := World.ownsRow.lt hown
    refine h v' w' ?_ ((Below.refl B w).grown h2 hbase fun k hk => (hlt k hk).1) h2
    unfold OwnV; rw [← cellsV_join]; exact h1

/-- make([][]int, n). -/
theorem wplV_make (hgd : o.guard = none) (l c : Operand) (ho : o.op = Op.makeSlice 32 l c) (B : Nat) (L C : Int) (n : Nat)
    (hl : a.eval l = .int .i64 L) (hc : a.eval c = .int .i64 C) (hL : L = (n : Int)) (hC : C = (n : Int)) (hbytes : n * 24 ≤ 140737488355328) (hbase : B ≤ w.heap.size)
    (h : ∀ w', OwnV w' B (.slice (some ⟨w.heap.size, 0, none⟩) n n) n (fun _ => .slice none 0 0) → Below B w w' → w.grownBy w' none → wpList Try.prog ops Q rest (a.put o.dst (.slice (some ⟨w.heap.size, 0, none⟩) n n)) w') :
    wpList Try.prog ops Q (o :: rest) a w := by
  obtain ⟨i, hi, hz0, hz1, hz2⟩ := info_parts infoInts
  refine wpList_make_full w hgd l c 32 ho B 29 i (.slice none 0 0) 1 Try.underlying32 hi hz0 hz1 .i64 .i64 L C n hl hc hL hC (by rw [hz2]; omega) (by unfold maxLen; omega) hbase ?_
  intro w' h1 h2
  refine h w' ?_ ((Below.refl B w).grown h2 hbase fun k hk => by cases hk) h2
  unfold OwnV
  have e : (madeCells (Value.slice none 0 0).cells (n * 1)).toList = cellsV n fun _ => .slice none 0 0 := by
    show (madeCells #[.slice none 0 0] (n * 1)).toList = _
    rw [toList_madeCells_one, Nat.mul_one]
    refine List.ext_getElem? fun i => ?_
    by_cases hi : i < n
    · rw [cellsV_get hi, List.getElem?_replicate, if_pos hi]
    · rw [List.getElem?_eq_none (by simp; omega), List.getElem?_eq_none (by rw [length_cellsV]; omega)]
  rw [← e]; exact h1

/-- append(s, x) of one more number, s the call's own: in place, or in a new block while the old one stays. -/
theorem wpl_append2 (hgd : o.guard = none) (s x : Operand) (ho : o.op = .call { callee := .builtin .append, args := #[s, x], argTypes := #[29, 29] })
    (B : Nat) (v : Value) (n : Nat) (f : Nat → Int) (hs : a.eval s = v) (hown : Own w B v n f)
    (ad : Addr) (m c : Nat) (g : Nat → Int) (hx : a.eval x = .slice (some ad) m c) (hrd : Rd w (some ad) m g)
    (hbytes : (n + m) * 8 ≤ 140737488355328) (hbase : B ≤ w.heap.size)
    (h1 : ∀ gg cap w', v = .slice (some ⟨gg, 0, none⟩) n cap → n + m ≤ cap → Own w' B (.slice (some ⟨gg, 0, none⟩) (n + m) cap) (n + m) (joinF n f g) → w.grownBy w' (some gg) → wpList Try.prog ops Q rest (a.put o.dst (.slice (some ⟨gg, 0, none⟩) (n + m) cap)) w')
    (h2 : ∀ v' w', Own w' w.heap.size v' (n + m) (joinF n f g) → w.grownBy w' none → wpList Try.prog ops Q rest (a.put o.dst v') w') :
    wpList Try.prog ops Q (o :: rest) a w := by
  obtain ⟨i, hi, hz0, hz1, hz2⟩ := info_parts infoInt
  have hnews : ∀ j u, (cellsOf m g)[j]? = some u → w.cell? (ad.add j) = some u := by
    intro j u hj
    have hjm : j < m := by
      have := (List.getElem?_eq_some_iff.1 hj).1
      rwa [length_cellsOf] at this
    rw [cellsOf_get hjm] at hj
    obtain ⟨b, off, e, hc⟩ := hrd.at hjm
    cases e
    rw [← hj, add_at]; exact hc j hjm
  have hgrow : ∀ (ao : Option Addr) (cap : Nat), v = .slice ao n cap → (ao = none → n = 0 ∧ cap = 0) → Rd w ao n f → cap < n + m → wpList Try.prog ops Q (o :: rest) a w := by
    intro ao cap e hnone hrd2 hfull
    refine wpList_append_grows w hgd s x 29 ho 3 i (.int .i64 0) 1 8 Try.underlying29 hi hz0 hz1 hz2 rfl (by decide) ao n cap (cellsOf n f) (by rw [hs, e]) hnone (by rw [length_cellsOf]; omega) ?_ ad m c (cellsOf m g) hx (by rw [length_cellsOf]; omega) hnews cellsOf_one hfull (by unfold maxLen; omega) hbytes ?_
    · intro b hb j u hj
      have hjn : j < n := by
        have := (List.getElem?_eq_some_iff.1 hj).1
        rwa [length_cellsOf] at this
      rw [cellsOf_get hjn] at hj
      obtain ⟨bb, off, e2, hc⟩ := hrd2.at hjn
      rw [hb] at e2
      cases e2
      rw [← hj, add_at]; exact hc j hjn
    · intro v' w' r1 r2
      exact h2 v' w' (by unfold Own; rw [← cellsOf_join]; exact r1) r2
  rcases id hown.2 with ⟨e, e0⟩ | ⟨gg, cap, cur, e, hg, hcell, hnc, hm, hsz, ht⟩
  · by_cases hm0 : m = 0
    · subst hm0; subst e0
      refine wpList_append_own w hgd s x 29 ho B 3 i (.int .i64 0) 1 8 Try.underlying29 hi hz0 hz1 hz2 rfl (by decide) v 0 (cellsOf 0 f) hs hown ad 0 c (cellsOf 0 g) hx rfl hnews cellsOf_one (by unfold maxLen; omega) hbytes hbase ?_
      intro v' w' r1 r2 r3
      have hv : v' = .slice none 0 0 := r3.2 ⟨e, rfl⟩
      subst hv
      refine h2 _ w' (Own.nil _ _ _) ?_
      rw [e] at r2; exact r2
    · exact hgrow none 0 (by rw [e, e0]) (fun _ => ⟨e0, rfl⟩) (.inl e0) (by omega)
  · by_cases hfit : n + m ≤ cap
    · refine wpList_append_fits w hgd s x 29 ho B 3 i 1 Try.underlying29 hi hz1 gg n cap (cellsOf n f) (by rw [hs, e]) (by rw [← e]; exact hown) ad m c (cellsOf m g) hx (by rw [length_cellsOf]; omega) hnews cellsOf_one hfit ?_
      intro w' r1 r2
      exact h1 gg cap w' e hfit (by unfold Own; rw [← cellsOf_join]; exact r1) r2
    · obtain ⟨a2, c2, e2, _, _, hrd2, _⟩ := hown.shape
      rw [e] at e2
      cases e2
      exact hgrow _ _ e (fun h => by cases h) hrd2 (by omega)

/-- append(s, x...), s a slice of slices of the call's own: where it lies behind it. -/
theorem wplV_append3 (hgd : o.guard = none) (s x : Operand) (ho : o.op = .call { callee := .builtin .append, args := #[s, x], argTypes := #[32, 32] })
    (B : Nat) (v : Value) (n : Nat) (f : Nat → Value) (hs : a.eval s = v) (hown : OwnV w B v n f)
    (ad : Addr) (m c : Nat) (g : Nat → Value) (hx : a.eval x = .slice (some ad) m c) (hrd : RdV w (some ad) m g) (h1 : ∀ i, i < m → ∃ a k c, g i = .slice a k c) (hm : 0 < m)
    (hbytes : (n + m) * 24 ≤ 140737488355328) (hbase : B ≤ w.heap.size)
    (h : ∀ v' w', OwnV w' B v' (n + m) (joinV n f g) → w.grownBy w' v.ownBlock → (∀ b, v'.ownBlock = some b → v.ownBlock = some b ∨ w.heap.size ≤ b) → wpList Try.prog ops Q rest (a.put o.dst v') w') :
    wpList Try.prog ops Q (o :: rest) a w := by
  obtain ⟨i, hi, hz0, hz1, hz2⟩ := info_parts infoInts
  have hnews : ∀ j u, (cellsV m g)[j]? = some u → w.cell? (ad.add j) = some u := by
    intro j u hj
    have hjm : j < m := by
      have := (List.getElem?_eq_some_iff.1 hj).1
      rwa [length_cellsV] at this
    rw [cellsV_get hjm] at hj
    obtain ⟨b, off, e, hc⟩ := hrd.at hjm
    cases e
    rw [← hj, add_at]; exact hc j hjm
  have hgrow : ∀ (ao : Option Addr) (cap : Nat), v = .slice ao n cap → (ao = none → n = 0 ∧ cap = 0) → RdV w ao n f → cap < n + m → wpList Try.prog ops Q (o :: rest) a w := by
    intro ao cap e hnone hrd2 hfull
    refine wpList_append_grows w hgd s x 32 ho 29 i (.slice none 0 0) 1 24 Try.underlying32 hi hz0 hz1 hz2 rfl (by decide) ao n cap (cellsV n f) (by rw [hs, e]) hnone (by rw [length_cellsV]; omega) ?_ ad m c (cellsV m g) hx (by rw [length_cellsV]; omega) hnews (cellsV_one h1) hfull (by unfold maxLen; omega) hbytes ?_
    · intro b hb j u hj
      have hjn : j < n := by
        have := (List.getElem?_eq_some_iff.1 hj).1
        rwa [length_cellsV] at this
      rw [cellsV_get hjn] at hj
      obtain ⟨bb, off, e2, hc⟩ := hrd2.at hjn
      rw [hb] at e2
      cases e2
      rw [← hj, add_at]; exact hc j hjn
    · intro v' w' r1 r2
      have ho2 : OwnV w' w.heap.size v' (n + m) (joinV n f g) := by unfold OwnV; rw [← cellsV_join]; exact r1
      exact h v' w' (ho2.base hbase) ⟨r2.os, r2.tape, r2.output, r2.size, fun k hk _ => r2.block k hk (by simp)⟩ fun b e => .inr (ho2.lt e).1
  rcases id hown.2 with ⟨e, e0⟩ | ⟨gg, cap, cur, e, hg, hcell, hnc, hmx, hsz, ht⟩
  · exact hgrow none 0 (by rw [e, e0]) (fun _ => ⟨e0, rfl⟩) (.inl e0) (by omega)
  · by_cases hfit : n + m ≤ cap
    · refine wpList_append_fits w hgd s x 32 ho B 29 i 1 Try.underlying32 hi hz1 gg n cap (cellsV n f) (by rw [hs, e]) (by rw [← e]; exact hown) ad m c (cellsV m g) hx (by rw [length_cellsV]; omega) hnews (cellsV_one h1) hfit ?_
      intro w' r1 r2
      refine h _ w' (by unfold OwnV; rw [← cellsV_join]; exact r1) (by rw [e]; exact r2) fun b e2 => .inl (by rw [e]; exact e2)
    · obtain ⟨a2, c2, e2, _, _, hrd2⟩ := hown.shape
      rw [e] at e2
      cases e2
      exact hgrow _ _ e (fun h => by cases h) hrd2 (by omega)

/-- wpl_append2 with one way on. -/
theorem wpl_append3 (hgd : o.guard = none) (s x : Operand) (ho : o.op = .call { callee := .builtin .append, args := #[s, x], argTypes := #[29, 29] })
    (B : Nat) (v : Value) (n : Nat) (f : Nat → Int) (hs : a.eval s = v) (hown : Own w B v n f)
    (ad : Addr) (m c : Nat) (g : Nat → Int) (hx : a.eval x = .slice (some ad) m c) (hrd : Rd w (some ad) m g)
    (hbytes : (n + m) * 8 ≤ 140737488355328) (hbase : B ≤ w.heap.size)
    (h : ∀ v' w', Own w' B v' (n + m) (joinF n f g) →
      ((∃ gg cap, v = .slice (some ⟨gg, 0, none⟩) n cap ∧ v' = .slice (some ⟨gg, 0, none⟩) (n + m) cap ∧ w.grownBy w' (some gg)) ∨ (w.grownBy w' none ∧ ∀ b, v'.ownBlock = some b → w.heap.size ≤ b)) →
      wpList Try.prog ops Q rest (a.put o.dst v') w') :
    wpList Try.prog ops Q (o :: rest) a w :=
  wpl_append2 hgd s x ho B v n f hs hown ad m c g hx hrd hbytes hbase (fun gg cap w' e _ r1 r2 => h _ w' r1 (.inl ⟨gg, cap, e, rfl, r2⟩))
    (fun v' w' r1 r2 => h v' w' (r1.base hbase) (.inr ⟨r2, fun _ e => (r1.lt e).1⟩))

end
end Go.Proofs.Ytlcablkhomnieaa

/-
  Lists in memory of their own, one more at a time: what holds on the way.
-/
namespace Go.Proofs.Ytlcablkhomnieaa
open Go.RowKit

/-- What the reference's Prefixes and Suffixes leave: N lists that read as they should. -/
def RPost (w : World) (N : Nat) (ns : Nat → Nat) (fs : Nat → Nat → Int) (e : Ending) (w' : World) : Prop :=
  ∃ v vs, e = .returned v ∧ OwnV w' w.heap.size v N vs ∧ Fam w' w.heap.size N vs ns fs ∧ Below w.heap.size w w'
structure RPInv (w : World) (t : Nat) (ns : Nat → Nat) (fs : Nat → Nat → Int) (wr : World) (v : Value) (vs : Nat → Value) : Prop where
  out : OwnV wr w.heap.size v t vs
  fam : Fam wr w.heap.size t vs ns fs
  apart : ∀ b, v.ownBlock = some b → ∀ i, i < t → (vs i).ownBlock ≠ some b
  below : Below w.heap.size w wr
theorem RPInv.fin {w wr : World} {N : Nat} {ns : Nat → Nat} {fs : Nat → Nat → Int} {v : Value} {vs : Nat → Value} (h : RPInv w N ns fs wr v vs) : RPost w N ns fs (.returned v) wr := ⟨v, vs, rfl, h.out, h.fam, h.below⟩
theorem RPInv.step {w wr w2 w4 : World} {t : Nat} {ns : Nat → Nat} {fs : Nat → Nat → Int} {v v' u : Value} {vs : Nat → Value} (h : RPInv w t ns fs wr v vs) (hu : Own w2 wr.heap.size u (ns t) (fs t)) (hb : Below wr.heap.size wr w2) (o : Obj)
    (ho : OwnV w4 w.heap.size v' (t + 1) (joinV t vs fun _ => u)) (hg : (w2.alloc o).grownBy w4 v.ownBlock) (hv : ∀ b, v'.ownBlock = some b → v.ownBlock = some b ∨ (w2.alloc o).heap.size ≤ b) :
    RPInv w (t + 1) ns fs w4 v' (joinV t vs fun _ => u) := by
  have hsz := h.below.size
  have hsz2 := hb.size
  have hA : ∀ b, b < w2.heap.size → some b ≠ v.ownBlock → w4.heap[b]? = w2.heap[b]? := fun b h1 h2 => by
    rw [hg.block b (by simp; omega) h2, Below.heap_alloc _ _ _ h1]
  have hvb : ∀ b, v.ownBlock = some b → w.heap.size ≤ b ∧ b < wr.heap.size := fun b e => h.out.lt e
  have hub : ∀ b, u.ownBlock = some b → wr.heap.size ≤ b ∧ b < w2.heap.size := fun b e => hu.lt e
  have hib : ∀ i, i < t → ∀ b, (vs i).ownBlock = some b → w.heap.size ≤ b ∧ b < wr.heap.size := fun i hi b e => (h.fam.own i hi).lt e
  have F1 : Fam w4 w.heap.size t vs ns fs := (h.fam.below hb).keep fun i hi b e => hA b (by have := hib i hi b e; omega) fun e2 => h.apart b e2.symm i hi e
  have F2 := F1.snoc (u := u) ((hu.base hsz).keep fun b e => hA b (hub b e).2 fun e2 => by have := hub b e; have := hvb b e2.symm; omega) fun i hi b e e2 => by have := hib i hi b e; have := hub b e2; omega
  have hsv : ∀ i, i < t + 1 → setV t u vs i = joinV t vs (fun _ => u) i := fun i hi => by
    by_cases e : i = t
    · subst e; rw [setV_same, joinV_ge (Nat.le_refl _)]
    · rw [setV_ne e, joinV_lt (by omega)]
  refine ⟨ho, ⟨fun i hi => by rw [← hsv i hi]; exact F2.own i hi, fun i j hi hj => by rw [← hsv i hi, ← hsv j hj]; exact F2.apart i j hi hj⟩, fun b e i hi e2 => ?_, ?_⟩
  · rw [← hsv i hi] at e2
    by_cases c : i = t
    · subst c
      rw [setV_same] at e2
      have := hub b e2
      rcases hv b e with h1 | h1
      · have := hvb b h1; omega
      · simp at h1; omega
    · rw [setV_ne c] at e2
      have := hib i (by omega) b e2
      rcases hv b e with h1 | h1
      · exact h.apart b h1 i (by omega) e2
      · simp at h1; omega
  · exact (((h.below.trans (hb.mono hsz)).alloc (by omega) o).grown hg (by simp; omega) fun k e => (hvb k e).1)

end Go.Proofs.Ytlcablkhomnieaa

/-
  Apart says yes of lists that lie each in memory of its own.
-/
namespace Go.Proofs.Ytlcablkhomnieaa
open Go.RowKit

theorem Own.take {w : World} {B g n m cap : Nat} {f : Nat → Int} (h : Own w B (.slice (some ⟨g, 0, none⟩) n cap) n f) (hm : m ≤ n) : Own w B (.slice (some ⟨g, 0, none⟩) m cap) m f := by
  obtain ⟨h1, h2⟩ := h
  rcases h2 with ⟨e, _⟩ | ⟨g', cap', cur, e, hg, hcell, hnc, hmx, hs, ht⟩
  · cases e
  · cases e
    refine ⟨by rw [length_cellsOf]; omega, .inr ⟨g, cap, cur, rfl, hg, hcell, by omega, hmx, hs, ?_⟩⟩
    rw [Nat.mul_one] at ht ⊢
    refine List.ext_getElem? fun i => ?_
    by_cases hi : i < m
    · rw [List.getElem?_take_of_lt hi, cellsOf_get hi]
      have e2 : cur.toList[i]? = (cur.toList.take n)[i]? := (List.getElem?_take_of_lt (by omega)).symm
      rw [e2, ht, cellsOf_get (by omega)]
    · rw [List.getElem?_eq_none (by rw [List.length_take]; omega), List.getElem?_eq_none (by rw [length_cellsOf]; omega)]

def setFF (I j : Nat) (x : Int) (fs : Nat → Nat → Int) (i : Nat) : Nat → Int := if i = I then setF j x (fs I) else fs i
theorem Fam.store {w : World} {B N I g c : Nat} {vs : Nat → Value} {ns : Nat → Nat} {fs : Nat → Nat → Int} (h : Fam w B N vs ns fs) (hI : I < N) (e : vs I = .slice (some ⟨g, 0, none⟩) (ns I) c) (j : Nat) (x : Int) :
    Fam (w.setCell ⟨g, j, none⟩ (.int .i64 x)) B N vs ns (setFF I j x fs) := by
  refine ⟨fun i hi => ?_, h.apart⟩
  by_cases c : i = I
  · subst c
    have h1 := h.own i hi
    rw [e] at h1 ⊢
    unfold setFF; rw [if_pos rfl]
    exact h1.store j x
  · unfold setFF; rw [if_neg c]
    refine (h.own i hi).keep fun b hb => Below.heap_setCell w ⟨g, j, none⟩ _ b fun e2 => ?_
    subst e2
    exact h.apart i I hi hI c _ hb (by rw [e]; rfl)

/-- What holds all the way: the outer slice, the lists, what is old. -/
structure ApInv (w : World) (B N : Nat) (v : Value) (vs : Nat → Value) (ns : Nat → Nat) (M : Nat → Nat → Int) (wr : World) : Prop where
  out : OwnV wr B v N vs
  fam : Fam wr B N vs ns M
  apart : ∀ b, v.ownBlock = some b → ∀ i, i < N → (vs i).ownBlock ≠ some b
  base : B ≤ w.heap.size
  below : Below B w wr
theorem ApInv.keep {w wr w1 : World} {B N : Nat} {v : Value} {vs : Nat → Value} {ns : Nat → Nat} {M : Nat → Nat → Int} (h : ApInv w B N v vs ns M wr) (k : ∀ b, b < wr.heap.size → (v.ownBlock = some b ∨ ∃ i, i < N ∧ (vs i).ownBlock = some b) → w1.heap[b]? = wr.heap[b]?) (hb : Below B wr w1) : ApInv w B N v vs ns M w1 :=
  ⟨h.out.keep fun b e => k b (h.out.lt e).2 (.inl e), h.fam.keep fun i hi b e => k b ((h.fam.own i hi).lt e).2 (.inr ⟨i, hi, e⟩), h.apart, h.base, h.below.trans hb⟩
theorem ApInv.congr {w wr : World} {B N : Nat} {v : Value} {vs : Nat → Value} {ns : Nat → Nat} {M M' : Nat → Nat → Int} (h : ApInv w B N v vs ns M wr) (e : ∀ i, i < N → ∀ j, j < ns i → M i j = M' i j) : ApInv w B N v vs ns M' wr :=
  ⟨h.out, h.fam.congr e, h.apart, h.base, h.below⟩
theorem ApInv.store {w wr : World} {B N I g c : Nat} {v : Value} {vs : Nat → Value} {ns : Nat → Nat} {M : Nat → Nat → Int} (h : ApInv w B N v vs ns M wr) (hI : I < N) (e : vs I = .slice (some ⟨g, 0, none⟩) (ns I) c) (j : Nat) (x : Int) :
    ApInv w B N v vs ns (setFF I j x M) (wr.setCell ⟨g, j, none⟩ (.int .i64 x)) := by
  have hg := (h.fam.own I hI).lt (b := g) (by rw [e]; rfl)
  refine ⟨h.out.keep fun b hb => Below.heap_setCell wr ⟨g, j, none⟩ _ b fun e2 => ?_, h.fam.store hI e j x, h.apart, h.base, h.below.setCell hg.1 _⟩
  subst e2
  exact h.apart _ hb I hI (by rw [e]; rfl)

/-- The marks behind the first I lists and k places of the next. -/
def mkF (fs : Nat → Nat → Int) (I k i j : Nat) : Int := if i < I ∨ (i = I ∧ j < k) then -1000 - (i : Int) else fs i j
def mkAll (i : Nat) (_ : Nat) : Int := -1000 - (i : Int)
theorem mk_step (fs : Nat → Nat → Int) (I k : Nat) (i j : Nat) : setFF I k (-1000 - (I : Int)) (mkF fs I k) i j = mkF fs I (k + 1) i j := by
  unfold setFF
  by_cases e : i = I
  · subst e; rw [if_pos rfl]
    unfold setF mkF
    by_cases c : j = k
    · rw [if_pos c, if_pos (by omega)]
    · rw [if_neg c]
      by_cases d : j < k
      · rw [if_pos (by omega), if_pos (by omega)]
      · rw [if_neg (by omega), if_neg (by omega)]
  · rw [if_neg e]; unfold mkF
    by_cases d : i < I
    · rw [if_pos (by omega), if_pos (by omega)]
    · rw [if_neg (by omega), if_neg (by omega)]

/-- The list that is gone on with: in its own block, or in one that is newer than all (from H on). -/
def Going (wr : World) (B H : Nat) (u : Value) (n I k : Nat) (x : Value) : Prop :=
  ∃ F, Own wr B x (n + k) F ∧ ((∃ g c, u = .slice (some ⟨g, 0, none⟩) n c ∧ x = .slice (some ⟨g, 0, none⟩) (n + k) c ∧ ∀ j, j < n → F j = -1000 - (I : Int)) ∨ ∀ b, x.ownBlock = some b → H ≤ b)

theorem going_start {wr : World} {B H n I : Nat} {u : Value} (h : Own wr B u n (mkAll I)) : Going wr B H u n I 0 u := by
  obtain ⟨a, c, e, hnil, _, _, _⟩ := h.shape
  refine ⟨mkAll I, h, ?_⟩
  rcases h.2 with ⟨e2, _⟩ | ⟨g, cap, cur, e2, _⟩
  · exact .inr fun b hb => by rw [e2] at hb; cases hb
  · exact .inl ⟨g, cap, e2, e2, fun j _ => rfl⟩

/-- One more append. -/
theorem going_step {w wr w1 : World} {B H N I k : Nat} {v : Value} {vs : Nat → Value} {ns : Nat → Nat} {x x' : Value} {o : Obj} {F G : Nat → Int} (h : ApInv w B N v vs ns mkAll wr) (hI : I < N) (hH : H ≤ wr.heap.size) (hB : B ≤ wr.heap.size)
    (hlo : ∀ b, (v.ownBlock = some b ∨ ∃ i, i < N ∧ (vs i).ownBlock = some b) → b < H)
    (hx : Own wr B x (ns I + k) F) (hc : (∃ g c, vs I = .slice (some ⟨g, 0, none⟩) (ns I) c ∧ x = .slice (some ⟨g, 0, none⟩) (ns I + k) c ∧ ∀ j, j < ns I → F j = -1000 - (I : Int)) ∨ ∀ b, x.ownBlock = some b → H ≤ b)
    (hx' : Own w1 B x' (ns I + k + 1) (joinF (ns I + k) F G))
    (hD : (∃ gg cap, x = .slice (some ⟨gg, 0, none⟩) (ns I + k) cap ∧ x' = .slice (some ⟨gg, 0, none⟩) (ns I + k + 1) cap ∧ (wr.alloc o).grownBy w1 (some gg)) ∨ ((wr.alloc o).grownBy w1 none ∧ ∀ b, x'.ownBlock = some b → (wr.alloc o).heap.size ≤ b)) :
    (ApInv w B N v vs ns mkAll w1 ∧ Going w1 B H (vs I) (ns I) I (k + 1) x') ∧ H ≤ w1.heap.size := by
  refine ⟨?_, by
    rcases hD with ⟨_, _, _, _, hg⟩ | ⟨hg, _⟩ <;> (have := hg.size; simp at this; omega)⟩
  have hA : ∀ r, (wr.alloc o).grownBy w1 r → ∀ b, b < wr.heap.size → some b ≠ r → w1.heap[b]? = wr.heap[b]? := fun r hg b h1 h2 => by
    rw [hg.block b (by simp; omega) h2, Below.heap_alloc _ _ _ h1]
  rcases hD with ⟨gg, cap, e1, e2, hg⟩ | ⟨hg, hnew⟩
  · have hgx := hx.lt (b := gg) (by rw [e1]; rfl)
    have hBel : Below B wr w1 := ((Below.refl B wr).alloc hB o).grown hg (by simp; omega) fun b e => by cases e; exact hgx.1
    rcases hc with ⟨g, c, u1, u2, hF⟩ | hc
    · rw [e1] at u2
      cases u2
      have hvsI : (vs I).ownBlock = some gg := by rw [u1]; rfl
      refine ⟨⟨h.out.keep fun b e => hA _ hg b (h.out.lt e).2 fun e3 => ?_, ⟨fun i hi => ?_, h.fam.apart⟩, h.apart, h.base, h.below.trans hBel⟩, joinF (ns I + k) F G, hx', .inl ⟨gg, cap, u1, e2, fun j hj => ?_⟩⟩
      · cases e3; exact h.apart _ e I hI hvsI
      · by_cases c : i = I
        · subst c
          rw [u1]
          rw [e2] at hx'
          refine (hx'.take (m := ns i) (by omega)).congr fun j hj => ?_
          rw [joinF_lt (by omega), hF j hj]; rfl
        · refine (h.fam.own i hi).keep fun b e => hA _ hg b ((h.fam.own i hi).lt e).2 fun e3 => ?_
          cases e3; exact h.fam.apart i I hi hI c _ e hvsI
      · rw [joinF_lt (by omega), hF j hj]
    · have hgH := hc gg (by rw [e1]; rfl)
      refine ⟨h.keep (fun b h1 h2 => hA _ hg b h1 fun e3 => by cases e3; have := hlo _ h2; omega) hBel, joinF (ns I + k) F G, hx', .inr fun b e => ?_⟩
      rw [e2] at e; cases e; exact hgH
  · have hBel : Below B wr w1 := ((Below.refl B wr).alloc hB o).grown hg (by simp; omega) fun b e => by cases e
    refine ⟨h.keep (fun b h1 _ => hA _ hg b h1 (by simp)) hBel, joinF (ns I + k) F G, hx', .inr fun b e => ?_⟩
    have := hnew b e; simp at this; omega

end Go.Proofs.Ytlcablkhomnieaa

/-
  Apart returns true of N lists that lie each in memory of its own, and turns nothing that was there.
-/
namespace Go.Proofs.Ytlcablkhomnieaa
open Go.RowKit

set_option maxHeartbeats 1000000 in
set_option maxRecDepth 100000 in
theorem apart_any (B N : Nat) (v : Value) (vs : Nat → Value) (ns : Nat → Nat) (fs : Nat → Nat → Int) (w : World) (hO : OwnV w B v N vs) (hF : Fam w B N vs ns fs) (hA : ∀ b, v.ownBlock = some b → ∀ i, i < N → (vs i).ownBlock ≠ some b) (hB : B ≤ w.heap.size)
    (hN : N ≤ 100000) (hns : ∀ i, i < N → ns i ≤ 100000) :
    Calls Try.prog 37 #[v] w fun e w' => e = .returned (.bool true) ∧ Below B w w' := by
  have I0 : ApInv w B N v vs ns (mkF fs 0 0) w := ⟨hO, hF.congr fun i _ j _ => by unfold mkF; rw [if_neg (by omega)], hA, hB, Below.refl _ _⟩
  obtain ⟨av, cv, rfl, _, _, _⟩ := hO.shape
  have HI0 := hide I0
  have HNS := hide hns
  clear I0 hO hF hA hns
  go_enter Try.func37, Try.ntmps37
  go_wp2
  go_loopw [3] (fun i wr => ∃ I : Nat, I ≤ N ∧ i = .int .i64 I ∧ ApInv w B N (.slice av N cv) vs ns (mkF fs I 0) wr) (fun i _ => N - (intOf i).toNat)
  case atStart => exact ⟨0, Nat.zero_le _, rfl, unhide HI0⟩
  case round =>
    obtain ⟨I, hI, rfl, hinv⟩ := hrel
    clear HI0
    have HI := hide hinv
    clear hinv
    by_cases hlt : I < N
    · have hni := unhide HNS I hlt
      go_wp2
      go_loopw [4] (fun i wr => ∃ k : Nat, k ≤ ns I ∧ i = .int .i64 k ∧ ApInv w B N (.slice av N cv) vs ns (mkF fs I k) wr) (fun i _ => ns I - (intOf i).toNat)
      case atStart => exact ⟨0, Nat.zero_le _, rfl, unhide HI⟩
      case round =>
        obtain ⟨k, hk, rfl, hinv⟩ := hrel
        clear HI
        have HK := hide hinv
        obtain ⟨g, cap, e, _, _, _, _, hcell, _⟩ := hinv.out.pos (by omega)
        cases e
        have hcI := hcell I hlt
        clear hcell
        by_cases hkn : k < ns I
        · obtain ⟨g1, c1, e1, _, _, _, _, hcell1, hfr1⟩ := (hinv.fam.own I hlt).pos (by omega)
          rw [e1] at hcI
          have hc1 := hcell1 k hkn
          have hf1 := hfr1 k
          have HS := hide ((hinv.store hlt e1 k (-1000 - (I : Int))).congr fun i _ j _ => mk_step fs I k i j)
          clear hcell1 hfr1 e1 hinv
          go_wp2
          go_roundw
          case rel => exact ⟨k + 1, by omega, by go_num, unhide HS⟩
          case measure => simp [intOf]; omega
        · have he : k = ns I := by omega
          obtain ⟨a1, c1, e1, _, _, _, _⟩ := (hinv.fam.own I hlt).shape
          rw [e1] at hcI
          have HE := hide (hinv.congr (M' := mkF fs (I + 1) 0) fun i _ j hj => by
            unfold mkF
            by_cases c : i < I ∨ (i = I ∧ j < k)
            · rw [if_pos c, if_pos (by omega)]
            · rw [if_neg c, if_neg (by
                intro d
                rcases d with d | d
                · by_cases e2 : i = I
                  · subst e2; omega
                  · omega
                · omega)])
          clear e1 hinv
          subst he
          go_wp2
          go_roundw
          case rel => exact ⟨I + 1, by omega, by go_num, unhide HE⟩
          case measure => simp [intOf]; omega
    · have he : N = I := by omega
      subst he
      have HB0 := hide ((unhide HI).congr (M' := mkAll) fun i hi j _ => by unfold mkF mkAll; rw [if_pos (by omega)])
      clear HI hI hlt
      go_wp2
      go_loopw [5] (fun i wr => ∃ I : Nat, I ≤ N ∧ i = .int .i64 I ∧ ApInv w B N (.slice av N cv) vs ns mkAll wr) (fun i _ => N - (intOf i).toNat)
      case atStart => exact ⟨0, Nat.zero_le _, rfl, unhide HB0⟩
      case round =>
        obtain ⟨I, hI, rfl, hinv⟩ := hrel
        clear HB0
        have HI := hide hinv
        by_cases hlt : I < N
        · have hni := unhide HNS I hlt
          obtain ⟨g, cap, e, _, _, _, _, hcell, _⟩ := hinv.out.pos (by omega)
          cases e
          have hcI := hcell I hlt
          have hown0 := hinv.fam.own I hlt
          obtain ⟨H0, hH0⟩ : ∃ H0, H0 = wr.heap.size := ⟨_, rfl⟩
          have HG := hide (going_start (H := H0) hown0)
          have HLO : Hid (∀ b, ((Value.slice (some ⟨g, 0, none⟩) N cv).ownBlock = some b ∨ ∃ i, i < N ∧ (vs i).ownBlock = some b) → b < H0) := fun b h => by
            rw [hH0]
            rcases h with h | ⟨i, hi, h⟩
            · exact (hinv.out.lt h).2
            · exact ((hinv.fam.own i hi).lt h).2
          have HLE : Hid (H0 ≤ wr.heap.size) := Nat.le_of_eq hH0
          clear hH0
          obtain ⟨a1, c1, e1, _, _, _, _⟩ := hown0.shape
          rw [e1] at hcI HG
          have HE1 := hide e1
          clear hcell hown0 e1 hinv
          go_wp2
          go_loopw [6, 7] (fun x i wq => ∃ k : Nat, k ≤ 6 ∧ i = .int .i64 k ∧ ApInv w B N (.slice (some ⟨g, 0, none⟩) N cv) vs ns mkAll wq ∧ H0 ≤ wq.heap.size ∧ Going wq B H0 (vs I) (ns I) I k x) (fun _ i _ => 6 - (intOf i).toNat)
          case atStart => exact ⟨0, by omega, rfl, unhide HI, unhide HLE, by rw [unhide HE1]; exact unhide HG⟩
          case round =>
            obtain ⟨k, hk, rfl, hinv, hszq, F, hx, hc⟩ := hrel
            clear HI HG HLE
            have HQ := hide hinv
            have HC := hide hc
            have hBq : B ≤ wr.heap.size := by have := hinv.below.size; omega
            obtain ⟨ax, cx, rfl, _, _, _, _⟩ := hx.shape
            clear hinv hc
            by_cases hk6 : k < 6
            · go_wp2_with (at_builtin; refine wpl_append3 rfl (.tmp 47) (.tmp 50) rfl B _ (ns I + k) F rfl (hx.alloc _) ⟨wr.heap.size, 0, none⟩ 1 1 (constF (-5000 - (I : Int))) rfl (Rd.lit wr 1 (constF (-5000 - (I : Int))) _ (by unfold maxLen; omega) rfl) (by omega) (by simp; omega) ?_; intro v3 w3 hown3 hD3)
              have HS := hide (going_step (unhide HQ) hlt hszq hBq (unhide HLO) hx (unhide HC) hown3 hD3)
              go_roundw
              case rel => exact ⟨k + 1, by omega, by go_num, (unhide HS).1.1, (unhide HS).2, (unhide HS).1.2⟩
              case measure => simp [intOf]; omega
            · go_wp2
              go_roundw
              case rel => exact ⟨I + 1, by omega, by go_num, unhide HQ⟩
              case measure => simp [intOf]; omega
        · have he : N = I := by omega
          subst he
          clear hI hlt
          have HNS' := HNS
          go_wp2
          go_loop [8] (fun i => ∃ I : Nat, I ≤ N ∧ i = .int .i64 I) (fun i => N - (intOf i).toNat)
          case atStart => exact ⟨0, Nat.zero_le _, rfl⟩
          case round =>
            obtain ⟨I, hI, rfl⟩ := hrel
            by_cases hlt : I < N
            · have hni := unhide HNS I hlt
              obtain ⟨g, cap, e, _, _, _, _, hcell, _⟩ := (unhide HI).out.pos (by omega)
              cases e
              have hcI := hcell I hlt
              have hown0 := (unhide HI).fam.own I hlt
              obtain ⟨a1, c1, e1, _, _, hrd1, _⟩ := hown0.shape
              rw [e1] at hcI
              clear hcell hown0 e1
              go_wp2
              go_loop [9] (fun i => ∃ k : Nat, k ≤ ns I ∧ i = .int .i64 k) (fun i => ns I - (intOf i).toNat)
              case atStart => exact ⟨0, Nat.zero_le _, rfl⟩
              case round =>
                obtain ⟨k, hk, rfl⟩ := hrel
                by_cases hkn : k < ns I
                · obtain ⟨b1, off1, rfl, hc1⟩ := hrd1.at hkn
                  have hck := hc1 k hkn
                  unfold mkAll at hck
                  have ht : ((-1000 - (I : Int)) != (-1000 - (I : Int))) = false := by simp
                  clear hc1
                  go_wp2
                  go_round
                  case rel => exact ⟨k + 1, by omega, by go_num⟩
                  case measure => simp [intOf]; omega
                · go_wp2
                  go_round
                  case rel => exact ⟨I + 1, by omega, by go_num⟩
                  case measure => simp [intOf]; omega
            · go_wp2
              go_ret
              exact ⟨rfl, (unhide HI).below⟩

end Go.Proofs.Ytlcablkhomnieaa

/-
  Whether two slices of ints are the same: the library's Equal.
-/
namespace Go.Proofs.Ytlcablkhomnieaa
open Go.RowKit

theorem equal_any (a a' : Option Addr) (c c' : Nat) (l l' : List Int) (w : World) (hr : RdL .i64 w a l) (hr' : RdL .i64 w a' l') (hn : l.length ≤ maxLen) :
    Calls Try.prog 68 #[.slice a l.length c, .slice a' l'.length c'] w fun e w' => e = .returned (.bool (decide (l = l'))) ∧ Below w.heap.size w w' := by
  unfold maxLen at hn
  by_cases hl : l.length = l'.length
  · have hne : ((l.length : Int) != (l'.length : Int)) = false := by simp [hl]
    go_enter Try.func68, Try.ntmps68
    go_wp2
    go_loopw [13] (fun i wr => ∃ j : Nat, j ≤ l.length ∧ i = .int .i64 j ∧ Hid (l.take j = l'.take j) ∧ Below w.heap.size w wr) (fun i _ => l.length - (intOf i).toNat)
    case atStart => exact ⟨0, Nat.zero_le _, rfl, hide rfl, Below.refl _ _⟩
    case round =>
      obtain ⟨j, hj, rfl, HG, hb⟩ := hrel
      by_cases hlt : j < l.length
      · obtain ⟨b, off, rfl, hc⟩ := (hr.below hb).at hlt
        obtain ⟨b', off', rfl, hc'⟩ := (hr'.below hb).at (i := j) (by omega)
        have hcj := hc j hlt
        have hcj' := hc' j (by omega)
        have hlt' : (j : Int) < (l.length : Int) := by omega
        have hlt2 : (j : Int) < (l'.length : Int) := by omega
        have HS := hide (take_at hlt)
        have HS' := hide (take_at (l := l') (j := j) (by omega))
        have HO := hide (fun (e : l = l') => show l.getD j 0 = l'.getD j 0 by rw [e])
        clear hc hc'
        generalize l.getD j 0 = x at *
        generalize l'.getD j 0 = y at *
        by_cases h1 : x = y
        · have ht : (x != y) = false := by simpa using h1
          have HE := hide h1
          clear h1
          go_wp2
          go_quiet (fail)
          go_wp2
          go_roundw
          case rel => exact ⟨j + 1, by omega, by go_num, hide (by rw [unhide HS, unhide HS', unhide HG, unhide HE]), below_drewN hb _⟩
          case measure => simp [intOf]; omega
        · have ht : (x != y) = true := by simpa using h1
          have HE := hide h1
          clear h1
          go_wp2
          go_quiet (fail)
          go_wp2
          go_ret
          exact ⟨ret_bool (decide_eq_false fun e => unhide HE (unhide HO e)).symm, below_drewN hb _⟩
      · have he : j = l.length := by omega
        subst he
        go_wp2
        go_ret
        refine ⟨ret_bool (decide_eq_true ?_).symm, hb⟩
        have h := unhide HG
        rwa [List.take_length, hl, List.take_length] at h
  · have hne : ((l.length : Int) != (l'.length : Int)) = true := by simp; omega
    go_enter Try.func68, Try.ntmps68
    go_wp2
    go_ret
    exact ⟨ret_bool (decide_eq_false fun e => hl (by rw [e])).symm, Below.refl _ _⟩

end Go.Proofs.Ytlcablkhomnieaa

/-
  A call of a function with a contract, as one step of a statement whose order is open.
-/
namespace Go.Proofs.Ytlcablkhomnieaa
open Go.RowKit

theorem step_call {ops : Array Oper} {o : Oper} {a : Act} {w : World} {K : Act → World → Prop} {Q : Exit → Act → World → Prop} {F : Prop}
    (hg : o.guard = none) (f : Nat) (args : Array Operand) (ts : Array TypeId) (ho : o.op = .call { callee := .value (.func f), args := args, argTypes := ts })
    {fn : Func} (hfn : Try.prog.funcs[f]? = some fn) (hname : (fn.name == "runtime.NumGoroutine") = false) (hbody : fn.body.isNone = false)
    (vs : Array Value) (hv : args.map a.eval = vs) {R : Ending → World → Prop} (hc : Calls Try.prog f vs w R) (h : ∀ e w', R e w' → ∃ v, e = .returned v ∧ K (a.put o.dst v) w') :
    if Region.wanted o (yielded ops a.tmps) = true then Oper.wp Try.prog o a w K Q else F := by
  have hw : Region.wanted o (yielded ops a.tmps) = true := by simp [Region.wanted, hg]
  rw [if_pos hw]
  unfold Oper.wp
  have e : (execOp a.eval o).run Try.prog w = .ok (.enter f vs) w := by
    simp [execOp, ho, resolve, invoke, Deferred.ofValue, Act.eval, hv, callFunc, hfn]
    rw [if_neg (by simpa using hname), if_neg (fun e => by rw [e] at hbody; cases hbody)]
  rw [e, Oper.upon_enter]
  refine hc.mono fun e w' r => ?_
  obtain ⟨v, rfl, hk⟩ := h e w' r
  exact hk

theorem step_call2 {ops : Array Oper} {o : Oper} {a : Act} {w : World} {K : Act → World → Prop} {Q : Exit → Act → World → Prop} {F : Prop}
    (hg : o.guard = none) (f : Nat) (x y : Operand) (ts : Array TypeId) (ho : o.op = .call { callee := .value (.func f), args := #[x, y], argTypes := ts })
    {fn : Func} (hfn : Try.prog.funcs[f]? = some fn) (hname : (fn.name == "runtime.NumGoroutine") = false) (hbody : fn.body.isNone = false)
    (u v : Value) (hx : a.eval x = u) (hy : a.eval y = v) {R : Ending → World → Prop} (hc : Calls Try.prog f #[u, v] w R) (h : ∀ e w', R e w' → ∃ v, e = .returned v ∧ K (a.put o.dst v) w') :
    if Region.wanted o (yielded ops a.tmps) = true then Oper.wp Try.prog o a w K Q else F :=
  step_call hg f #[x, y] ts ho hfn hname hbody #[u, v] (by simp [hx, hy]) hc h

end Go.Proofs.Ytlcablkhomnieaa
