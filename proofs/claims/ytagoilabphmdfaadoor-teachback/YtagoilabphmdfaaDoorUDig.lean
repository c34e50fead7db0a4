/-
  A number's digits, in plain words.
-/
import Derived.Test.YtagoilabphmdfaaDoorUTk
import Derived.Lib.ItoaLen
namespace Go.Proofs.YtagoilabphmdfaaDoor

/-! ### A number's digits -/
theorem dg_dgt {u : Nat} (h : u < 10) : dgt (UInt8.ofNat (48 + u)) = true := by
  unfold dgt
  have : (UInt8.ofNat (48 + u)).toNat = 48 + u := by simp; omega
  rw [this]; simp; omega
theorem dec_dgt : ∀ (u : Nat), ∀ c ∈ Lib.decDigits u, dgt c = true := by
  intro u
  induction u using Nat.strongRecOn with
  | _ u ih =>
    intro c hc
    rw [Lib.decDigits] at hc
    split at hc
    · rename_i h
      rw [List.mem_singleton] at hc; subst hc; exact dg_dgt h
    · rename_i h
      rw [List.mem_append] at hc
      rcases hc with hc | hc
      · exact ih (u / 10) (by omega) c hc
      · rw [List.mem_singleton] at hc; subst hc; exact dg_dgt (Nat.mod_lt u (by decide))
theorem valF_app (n : Nat) (l m : List UInt8) : valF n (l ++ m) = valF (valF n l) m := by simp [valF]
theorem dec_val : ∀ (u : Nat), valF 0 (Lib.decDigits u) = u := by
  intro u
  induction u using Nat.strongRecOn with
  | _ u ih =>
    rw [Lib.decDigits]
    split
    · rename_i h
      have : (UInt8.ofNat (48 + u)).toNat = 48 + u := by simp; omega
      simp only [valF, List.foldl_cons, List.foldl_nil, this]; omega
    · rename_i h
      have : (UInt8.ofNat (48 + u % 10)).toNat = 48 + u % 10 := by simp; omega
      rw [valF_app, ih (u / 10) (by omega)]
      simp only [valF, List.foldl_cons, List.foldl_nil, this]; omega
theorem dec_head {u : Nat} (h : 0 < u) : (Lib.decDigits u).head? ≠ some 48 := by
  induction u using Nat.strongRecOn with
  | _ u ih =>
    rw [Lib.decDigits]
    split
    · rename_i h1
      intro e
      simp only [List.head?_cons, Option.some.injEq] at e
      have := congrArg UInt8.toNat e
      have h2 : (UInt8.ofNat (48 + u)).toNat = 48 + u := by simp; omega
      rw [h2] at this
      have : (48 : UInt8).toNat = 48 := rfl
      omega
    · rename_i h1
      have := ih (u / 10) (by omega) (by omega)
      rw [List.head?_append]
      intro e
      cases hd : (Lib.decDigits (u / 10)).head? with
      | none =>
        have : (Lib.decDigits (u / 10)).length = 0 := by
          cases hl : Lib.decDigits (u / 10) with
          | nil => rfl
          | cons a b => rw [hl] at hd; cases hd
        rw [Lib.decDigits_length] at this
        have := Lib.nDigits_pos (u / 10)
        omega
      | some c => rw [hd] at e; simp at e; exact this (by rw [hd, e])
theorem dcd_one {u : Nat} (h : u < 10) : (Lib.decDigits u).length = 1 := by rw [Lib.decDigits_length, Lib.nDigits_small h]
theorem dcd_four {u : Nat} (h : u ≤ 9999) : (Lib.decDigits u).length ≤ 4 := by
  rw [Lib.decDigits_length]
  by_cases h1 : u < 10
  · rw [Lib.nDigits_small h1]; decide
  · rw [Lib.nDigits_big h1]
    by_cases h2 : u / 10 < 10
    · rw [Lib.nDigits_small h2]; decide
    · rw [Lib.nDigits_big h2]
      by_cases h3 : u / 10 / 10 < 10
      · rw [Lib.nDigits_small h3]; decide
      · rw [Lib.nDigits_big h3, Lib.nDigits_small (by omega)]; decide
theorem dec_pos' (u : Nat) : 0 < (Lib.decDigits u).length := by rw [Lib.decDigits_length]; exact Lib.nDigits_pos u
theorem itoa_nat (u : Nat) : Lib.itoa (u : Int) = Lib.decDigits u := by unfold Lib.itoa; rw [if_neg (by omega), Int.toNat_natCast]

theorem tw_stop {l r : List UInt8} (hl : ∀ c ∈ l, dgt c = true) (hr : ∀ c, r.head? = some c → dgt c = false) : (l ++ r).takeWhile dgt = l := by
  induction l with
  | nil =>
    cases r with
    | nil => rfl
    | cons c r => rw [List.nil_append, List.takeWhile_cons_of_neg]; rw [hr c rfl]; decide
  | cons c l ih =>
    rw [List.cons_append, List.takeWhile_cons_of_pos (hl c List.mem_cons_self), ih fun x hx => hl x (List.mem_cons_of_mem _ hx)]

end Go.Proofs.YtagoilabphmdfaaDoor
