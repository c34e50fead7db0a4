/-
  UTF-8 by bytes: when the bytes at a place are a rune, and which; in plain numbers.
-/
import Derived.Test.YtbhdcgebcmgidaaDoorK1
import Derived.Laws.RangeAny
import Derived.Lib.OthersKept
namespace Go.Proofs.YtbhdcgebcmgidaaDoor
open Go.RowKit

/-- The byte at a place. -/
def bt (s : ByteArray) (k : Nat) : Nat := (s.get! k).toNat
theorem bt_lt (s : ByteArray) (k : Nat) : bt s k < 256 := by unfold bt; exact UInt8.toNat_lt _
theorem bt_get (s : ByteArray) (k : Nat) (h : k < s.size) : (s[k]'h).toNat = bt s k := by
  show (s.data[k]'h).toNat = (s.data[k]!).toNat
  rw [getElem!_pos s.data k h]

/-- What stands at a place: the rune and how many bytes it has; bytes that are no rune: RuneError, and one byte. -/
def rn (s : ByteArray) (i : Nat) : Int := (Utf8.decode s i).1
def wd (s : ByteArray) (i : Nat) : Nat := (Utf8.decode s i).2
def brk (s : ByteArray) (i : Nat) : Bool := decide (rn s i = 65533 ∧ wd s i = 1)

def Two (s : ByteArray) (i : Nat) : Prop := 192 ≤ bt s i ∧ bt s i < 224 ∧ i + 1 < s.size ∧ 128 ≤ bt s (i + 1) ∧ bt s (i + 1) < 192 ∧ 128 ≤ (bt s i - 192) * 64 + (bt s (i + 1) - 128)
def v3 (s : ByteArray) (i : Nat) : Nat := ((bt s i - 224) * 64 + (bt s (i + 1) - 128)) * 64 + (bt s (i + 2) - 128)
def Three (s : ByteArray) (i : Nat) : Prop := 224 ≤ bt s i ∧ bt s i < 240 ∧ i + 2 < s.size ∧ 128 ≤ bt s (i + 1) ∧ bt s (i + 1) < 192 ∧ 128 ≤ bt s (i + 2) ∧ bt s (i + 2) < 192 ∧ 2048 ≤ v3 s i ∧ (v3 s i < 55296 ∨ 57344 ≤ v3 s i)
def v4 (s : ByteArray) (i : Nat) : Nat := (((bt s i - 240) * 64 + (bt s (i + 1) - 128)) * 64 + (bt s (i + 2) - 128)) * 64 + (bt s (i + 3) - 128)
def Four (s : ByteArray) (i : Nat) : Prop := 240 ≤ bt s i ∧ bt s i < 248 ∧ i + 3 < s.size ∧ 128 ≤ bt s (i + 1) ∧ bt s (i + 1) < 192 ∧ 128 ≤ bt s (i + 2) ∧ bt s (i + 2) < 192 ∧ 128 ≤ bt s (i + 3) ∧ bt s (i + 3) < 192 ∧ 65536 ≤ v4 s i ∧ v4 s i ≤ 1114111

theorem dec_form (s : ByteArray) (i : Nat) : Utf8.decode s i =
    if bt s i < 128 then (bt s i, 1)
    else if (bt s i / 32 == 6 && (decide (i + 1 < s.size) && bt s (i + 1) / 64 == 2)) = true then
      (if bt s i % 32 * 64 + bt s (i + 1) % 64 ≥ 128 then (bt s i % 32 * 64 + bt s (i + 1) % 64, 2) else (65533, 1))
    else if (bt s i / 16 == 14 && (decide (i + 1 < s.size) && bt s (i + 1) / 64 == 2) && (decide (i + 2 < s.size) && bt s (i + 2) / 64 == 2)) = true then
      (if (decide (bt s i % 16 * 4096 + bt s (i + 1) % 64 * 64 + bt s (i + 2) % 64 ≥ 2048) && Utf8.valid ((bt s i % 16 * 4096 + bt s (i + 1) % 64 * 64 + bt s (i + 2) % 64 : Nat) : Int)) = true then (bt s i % 16 * 4096 + bt s (i + 1) % 64 * 64 + bt s (i + 2) % 64, 3) else (65533, 1))
    else if (bt s i / 8 == 30 && (decide (i + 1 < s.size) && bt s (i + 1) / 64 == 2) && (decide (i + 2 < s.size) && bt s (i + 2) / 64 == 2) && (decide (i + 3 < s.size) && bt s (i + 3) / 64 == 2)) = true then
      (if (decide (bt s i % 8 * 262144 + bt s (i + 1) % 64 * 4096 + bt s (i + 2) % 64 * 64 + bt s (i + 3) % 64 ≥ 65536) && Utf8.valid ((bt s i % 8 * 262144 + bt s (i + 1) % 64 * 4096 + bt s (i + 2) % 64 * 64 + bt s (i + 3) % 64 : Nat) : Int)) = true then (bt s i % 8 * 262144 + bt s (i + 1) % 64 * 4096 + bt s (i + 2) % 64 * 64 + bt s (i + 3) % 64, 4) else (65533, 1))
    else (65533, 1) := rfl

theorem dec_one {s : ByteArray} {i : Nat} (h : bt s i < 128) : Utf8.decode s i = (bt s i, 1) := by
  rw [dec_form, if_pos h]

theorem dec_two {s : ByteArray} {i : Nat} (h : Two s i) : Utf8.decode s i = ((bt s i - 192) * 64 + (bt s (i + 1) - 128), 2) := by
  obtain ⟨h1, h2, h3, h4, h5, h6⟩ := h
  have a1 : bt s i / 32 = 6 := by omega
  have a2 : bt s (i + 1) / 64 = 2 := by omega
  have a3 : bt s i % 32 = bt s i - 192 := by omega
  have a4 : bt s (i + 1) % 64 = bt s (i + 1) - 128 := by omega
  rw [dec_form, if_neg (by omega), if_pos (by simp [a1, a2, h3]), a3, a4, if_pos h6]

theorem dec_three {s : ByteArray} {i : Nat} (h : Three s i) : Utf8.decode s i = (v3 s i, 3) := by
  obtain ⟨h1, h2, h3, h4, h5, h6, h7, h8, h9⟩ := h
  unfold v3 at *
  have a0 : ¬ bt s i / 32 = 6 := by omega
  have a1 : bt s i / 16 = 14 := by omega
  have a2 : bt s (i + 1) / 64 = 2 := by omega
  have a3 : bt s (i + 2) / 64 = 2 := by omega
  have a4 : bt s i % 16 * 4096 + bt s (i + 1) % 64 * 64 + bt s (i + 2) % 64 = ((bt s i - 224) * 64 + (bt s (i + 1) - 128)) * 64 + (bt s (i + 2) - 128) := by omega
  have g1 : i + 1 < s.size := by omega
  rw [dec_form, if_neg (by omega), if_neg (by simp [a0]), if_pos (by simp [a1, a2, a3, h3, g1]), a4]
  generalize ((bt s i - 224) * 64 + (bt s (i + 1) - 128)) * 64 + (bt s (i + 2) - 128) = v at *
  rw [if_pos]
  simp only [Utf8.valid, Bool.and_eq_true, Bool.or_eq_true, decide_eq_true_eq]
  omega

theorem dec_four {s : ByteArray} {i : Nat} (h : Four s i) : Utf8.decode s i = (v4 s i, 4) := by
  obtain ⟨h1, h2, h3, h4, h5, h6, h7, h8, h9, h10, h11⟩ := h
  unfold v4 at *
  have a0 : ¬ bt s i / 32 = 6 := by omega
  have b0 : ¬ bt s i / 16 = 14 := by omega
  have a1 : bt s i / 8 = 30 := by omega
  have a2 : bt s (i + 1) / 64 = 2 := by omega
  have a3 : bt s (i + 2) / 64 = 2 := by omega
  have a5 : bt s (i + 3) / 64 = 2 := by omega
  have a4 : bt s i % 8 * 262144 + bt s (i + 1) % 64 * 4096 + bt s (i + 2) % 64 * 64 + bt s (i + 3) % 64 = (((bt s i - 240) * 64 + (bt s (i + 1) - 128)) * 64 + (bt s (i + 2) - 128)) * 64 + (bt s (i + 3) - 128) := by omega
  have g1 : i + 1 < s.size := by omega
  have g2 : i + 2 < s.size := by omega
  rw [dec_form, if_neg (by omega), if_neg (by simp [a0]), if_neg (by simp [b0]), if_pos (by simp [a1, a2, a3, a5, h3, g1, g2]), a4]
  generalize (((bt s i - 240) * 64 + (bt s (i + 1) - 128)) * 64 + (bt s (i + 2) - 128)) * 64 + (bt s (i + 3) - 128) = v at *
  rw [if_pos]
  simp only [Utf8.valid, Bool.and_eq_true, Bool.or_eq_true, decide_eq_true_eq]
  omega

theorem dec_bad {s : ByteArray} {i : Nat} (h1 : 128 ≤ bt s i) (h2 : ¬ Two s i) (h3 : ¬ Three s i) (h4 : ¬ Four s i) : Utf8.decode s i = (65533, 1) := by
  have q0 := bt_lt s i
  have q1 := bt_lt s (i + 1)
  have q2 := bt_lt s (i + 2)
  have q3 := bt_lt s (i + 3)
  unfold Two at h2
  unfold Three v3 at h3
  unfold Four v4 at h4
  rw [dec_form, if_neg (by omega)]
  split
  · rename_i c
    simp only [Bool.and_eq_true, beq_iff_eq, decide_eq_true_eq] at c
    rw [if_neg (by omega)]
  · split
    · rename_i _ c
      simp only [Bool.and_eq_true, beq_iff_eq, decide_eq_true_eq] at c
      rw [if_neg]
      simp only [Utf8.valid, Bool.and_eq_true, Bool.or_eq_true, decide_eq_true_eq]
      omega
    · split
      · rename_i _ _ c
        simp only [Bool.and_eq_true, beq_iff_eq, decide_eq_true_eq] at c
        rw [if_neg]
        simp only [Utf8.valid, Bool.and_eq_true, Bool.or_eq_true, decide_eq_true_eq]
        omega
      · rfl

theorem dec_all (s : ByteArray) (i : Nat) : bt s i < 128 ∨ Two s i ∨ Three s i ∨ Four s i ∨ Utf8.decode s i = (65533, 1) := by
  by_cases h1 : bt s i < 128
  · exact .inl h1
  by_cases h2 : Two s i
  · exact .inr (.inl h2)
  by_cases h3 : Three s i
  · exact .inr (.inr (.inl h3))
  by_cases h4 : Four s i
  · exact .inr (.inr (.inr (.inl h4)))
  exact .inr (.inr (.inr (.inr (dec_bad (by omega) h2 h3 h4))))

theorem rn_nonneg (s : ByteArray) (i : Nat) : 0 ≤ rn s i := by unfold rn; omega
theorem rn_le (s : ByteArray) (i : Nat) : rn s i ≤ 1114111 := by
  unfold rn
  rcases dec_all s i with h | h | h | h | h
  · rw [dec_one h]; show ((bt s i : Nat) : Int) ≤ _; omega
  · rw [dec_two h]; unfold Two at h; simp only; omega
  · rw [dec_three h]; unfold Three at h; unfold v3 at *; simp only; omega
  · rw [dec_four h]; unfold Four at h; simp only; omega
  · rw [h]; decide
theorem wd_pos (s : ByteArray) (i : Nat) : 1 ≤ wd s i := by
  unfold wd
  rcases dec_all s i with h | h | h | h | h
  · rw [dec_one h]; simp
  · rw [dec_two h]; simp
  · rw [dec_three h]; simp
  · rw [dec_four h]; simp
  · rw [h]; decide
theorem wd_in (s : ByteArray) (i : Nat) (hi : i < s.size) : i + wd s i ≤ s.size := by
  unfold wd
  rcases dec_all s i with h | h | h | h | h
  · rw [dec_one h]; show i + 1 ≤ _; omega
  · rw [dec_two h]; unfold Two at h; show i + 2 ≤ _; omega
  · rw [dec_three h]; unfold Three at h; show i + 3 ≤ _; omega
  · rw [dec_four h]; unfold Four at h; show i + 4 ≤ _; omega
  · rw [h]; show i + 1 ≤ _; omega
theorem brk_of {s : ByteArray} {i : Nat} (h : Utf8.decode s i = (65533, 1)) : brk s i = true := by
  simp [brk, rn, wd, h]
theorem brk_not {s : ByteArray} {i : Nat} (h : bt s i < 128 ∨ Two s i ∨ Three s i ∨ Four s i) : brk s i = false := by
  unfold brk rn wd
  rcases h with h | h | h | h
  · rw [dec_one h]; simp; omega
  · rw [dec_two h]; simp
  · rw [dec_three h]; simp
  · rw [dec_four h]; simp

/-- Of RuneError the bytes tell whether it is one. -/
theorem brk_bytes (s : ByteArray) (i : Nat) : brk s i = true ↔ rn s i = 65533 ∧ ¬ (i + 2 < s.size ∧ bt s i = 239 ∧ bt s (i + 1) = 191 ∧ bt s (i + 2) = 189) := by
  have q0 := bt_lt s i
  have q1 := bt_lt s (i + 1)
  have q2 := bt_lt s (i + 2)
  constructor
  · intro h
    simp only [brk, decide_eq_true_eq] at h
    refine ⟨h.1, fun g => ?_⟩
    have h3 : Three s i := ⟨by omega, by omega, by omega, by omega, by omega, by omega, by omega, by unfold v3; omega, by unfold v3; omega⟩
    have := h.2
    unfold wd at this
    rw [dec_three h3] at this
    exact absurd this (by simp)
  · rintro ⟨h, g⟩
    rcases dec_all s i with c | c | c | c | c
    · unfold rn at h; rw [dec_one c] at h; simp only at h; omega
    · unfold rn at h; rw [dec_two c] at h; unfold Two at c; simp only at h; omega
    · unfold rn at h; rw [dec_three c] at h; unfold Three v3 at c; unfold v3 at h; simp only at h
      exact absurd ⟨by omega, by omega, by omega, by omega⟩ g
    · unfold rn at h; rw [dec_four c] at h; unfold Four at c; simp only at h; omega
    · exact brk_of c

end Go.Proofs.YtbhdcgebcmgidaaDoor
