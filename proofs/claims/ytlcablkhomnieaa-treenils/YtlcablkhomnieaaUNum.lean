/-
  Digits one by one: how many stand from a place on, what they say.
-/
import Derived.Test.YtlcablkhomnieaaUTk
namespace Go.Proofs.Ytlcablkhomnieaa

/-- The byte at a place, as a number. -/
def bt8 (b : List UInt8) (p : Nat) : Int := ((b.getD p 0).toNat : Int)
theorem bt8_lo (b : List UInt8) (p : Nat) : 0 ≤ bt8 b p ∧ bt8 b p ≤ 255 := by
  have := (b.getD p 0).toNat_lt
  unfold bt8; omega
theorem dgt_iff {b : List UInt8} {p : Nat} : dgt (b.getD p 0) = true ↔ 48 ≤ bt8 b p ∧ bt8 b p ≤ 57 := by
  simp only [dgt, bt8, Bool.and_eq_true, decide_eq_true_eq]; omega

theorem tw_more {l : List UInt8} : ∀ {j : Nat}, j < (l.takeWhile dgt).length → j < l.length ∧ dgt (l.getD j 0) = true ∧ (l.takeWhile dgt).getD j 0 = l.getD j 0 := by
  induction l with
  | nil => intro j h; simp at h
  | cons c l ih =>
    intro j h
    by_cases hc : dgt c = true
    · rw [List.takeWhile_cons_of_pos hc] at h ⊢
      cases j with
      | zero => simp [hc]
      | succ j => simpa using ih (by simpa using h)
    · rw [List.takeWhile_cons_of_neg hc] at h
      simp at h
theorem tw_on {l : List UInt8} : ∀ {j : Nat}, j ≤ (l.takeWhile dgt).length → j < l.length → dgt (l.getD j 0) = true → j < (l.takeWhile dgt).length := by
  induction l with
  | nil => intro j h h1; simp at h1
  | cons c l ih =>
    intro j h h1 h2
    by_cases hc : dgt c = true
    · rw [List.takeWhile_cons_of_pos hc] at h ⊢
      cases j with
      | zero => simp
      | succ j =>
        have := ih (j := j) (by simpa using h) (by simpa using h1) (by simpa using h2)
        simpa using this
    · rw [List.takeWhile_cons_of_neg hc] at h
      have h0 : j = 0 := by simpa using h
      subst h0
      exact absurd (by simpa using h2) hc
theorem drop_getD (b : List UInt8) (i j : Nat) : (b.drop i).getD j 0 = b.getD (i + j) 0 := by
  simp [List.getD, List.getElem?_drop]
theorem dg_more {b : List UInt8} {i j : Nat} (h : j < (digs b i).length) : i + j < b.length ∧ (48 ≤ bt8 b (i + j) ∧ bt8 b (i + j) ≤ 57) ∧ (((digs b i).getD j 0).toNat : Int) = bt8 b (i + j) := by
  obtain ⟨h1, h2, h3⟩ := tw_more (l := b.drop i) h
  rw [drop_getD] at h2 h3
  rw [List.length_drop] at h1
  refine ⟨by omega, dgt_iff.1 h2, ?_⟩
  unfold digs bt8; rw [h3]
theorem dg_on {b : List UInt8} {i j : Nat} (h : j ≤ (digs b i).length) (h1 : i + j < b.length) (h2 : 48 ≤ bt8 b (i + j)) (h3 : bt8 b (i + j) ≤ 57) : j < (digs b i).length := by
  refine tw_on (l := b.drop i) h (by rw [List.length_drop]; omega) ?_
  rw [drop_getD]
  exact dgt_iff.2 ⟨h2, h3⟩
theorem dg_head {b : List UInt8} {i : Nat} (h : 0 < (digs b i).length) : (digs b i).head? = some 48 ↔ bt8 b i = 48 := by
  have h3 := (dg_more h).2.2
  cases hd : digs b i with
  | nil => rw [hd] at h; simp at h
  | cons c l =>
    rw [hd] at h3
    simp only [List.getD_cons_zero, Nat.add_zero] at h3
    simp only [List.head?_cons, Option.some.injEq]
    rw [← h3]
    constructor
    · intro e; rw [e]; rfl
    · intro e; exact UInt8.toNat_inj.1 (by have : (48 : UInt8).toNat = 48 := rfl; omega)

/-- The first digits' number. -/
def vj (b : List UInt8) (i j : Nat) : Nat := valF 0 ((digs b i).take j)
theorem vj_zero (b : List UInt8) (i : Nat) : vj b i 0 = 0 := rfl
theorem vj_succ {b : List UInt8} {i j : Nat} (h : j < (digs b i).length) : (vj b i (j + 1) : Int) = (vj b i j : Int) * 10 + (bt8 b (i + j) - 48) := by
  obtain ⟨h1, ⟨h2, h2'⟩, h3⟩ := dg_more h
  unfold vj valF
  rw [List.take_add_one, List.getElem?_eq_getElem h, Option.toList_some, List.foldl_append, List.foldl_cons, List.foldl_nil]
  have h4 : (digs b i).getD j 0 = (digs b i)[j] := by simp [h]
  rw [h4] at h3
  generalize List.foldl (fun n (c : UInt8) => n * 10 + (c.toNat - 48)) 0 ((digs b i).take j) = n
  omega
theorem vj_le {b : List UInt8} {i : Nat} : ∀ {j : Nat}, j ≤ (digs b i).length → vj b i j + 1 ≤ 10 ^ j
  | 0, _ => by simp [vj_zero]
  | j + 1, h => by
    have h1 := vj_le (b := b) (i := i) (j := j) (by omega)
    have h2 := vj_succ (b := b) (i := i) (j := j) (by omega)
    obtain ⟨_, h3, _⟩ := dg_more (b := b) (i := i) (j := j) (by omega)
    rw [Nat.pow_succ]
    omega
theorem vj_four {b : List UInt8} {i j : Nat} (h : j ≤ (digs b i).length) (h4 : j ≤ 4) : (vj b i j : Int) ≤ 9999 := by
  have := vj_le h
  have h2 : (10 : Nat) ^ j ≤ 10 ^ 4 := Nat.pow_le_pow_right (by decide) h4
  omega
theorem vj_three {b : List UInt8} {i j : Nat} (h : j ≤ (digs b i).length) (h4 : j ≤ 3) : (vj b i j : Int) ≤ 999 := by
  have := vj_le h
  have h2 : (10 : Nat) ^ j ≤ 10 ^ 3 := Nat.pow_le_pow_right (by decide) h4
  omega

theorem numV_none {b : List UInt8} {i : Nat} (h : (digs b i).length = 0) : numV b i = (0, i, 6) := by
  unfold numV; rw [if_pos h]
theorem numV_lead {b : List UInt8} {i : Nat} (h : 1 < (digs b i).length) (h0 : bt8 b i = 48) : numV b i = (0, i + 1, 6) := by
  unfold numV; rw [if_neg (by omega), if_pos ⟨h, (dg_head (by omega)).2 h0⟩]
theorem numV_many {b : List UInt8} {i : Nat} (h : 4 < (digs b i).length) (h0 : bt8 b i ≠ 48) : numV b i = (0, i + 4, 6) := by
  unfold numV; rw [if_neg (by omega), if_neg (fun e => h0 ((dg_head (by omega)).1 e.2)), if_pos h]
theorem numV_ok {b : List UInt8} {i : Nat} (h : 0 < (digs b i).length) (h4 : (digs b i).length ≤ 4) (h0 : (digs b i).length ≤ 1 ∨ bt8 b i ≠ 48) : numV b i = (vj b i (digs b i).length, i + (digs b i).length, 0) := by
  unfold numV
  rw [if_neg (by omega), if_neg (fun e => by
    rcases h0 with h0 | h0
    · omega
    · exact h0 ((dg_head (by omega)).1 e.2)), if_neg (by omega)]
  unfold vj
  rw [List.take_length]
/-- Number, at any int. -/
def nmV (b : List UInt8) (x : Int) : Int × Int × Int :=
  if x < 0 ∨ (b.length : Int) < x then (0, 0, 1) else ((numV b x.toNat).1, (numV b x.toNat).2.1, (numV b x.toNat).2.2)
theorem nmV_arg {b : List UInt8} {x : Int} (h : x < 0 ∨ (b.length : Int) < x) : nmV b x = (0, 0, 1) := by unfold nmV; rw [if_pos h]
theorem nmV_at {b : List UInt8} {i : Nat} (h : i ≤ b.length) : nmV b i = (((numV b i).1 : Int), ((numV b i).2.1 : Int), (numV b i).2.2) := by
  unfold nmV; rw [if_neg (by omega)]; rfl

end Go.Proofs.Ytlcablkhomnieaa
