/-
  The states that lead into a set by a symbol, list by list. In plain words, for layer 6.
-/
import Derived.Test.YtnakadlhafggkaaQSg
import Derived.Test.YtnakadlhafggkaaQLead
namespace Go.Proofs.Ytnakadlhafggkaa
open Go.RowKit

/-- A list without doubles of numbers below n is not longer than n. -/
theorem nodup_len : ∀ (n : Nat) (l : List Int), l.Nodup → (∀ x ∈ l, 0 ≤ x ∧ x < (n : Int)) → l.length ≤ n
  | 0, l, _, h => by
    cases l with
    | nil => simp
    | cons a t => have := h a (by simp); omega
  | n + 1, l, hd, h => by
    have h1 := nodup_len n (l.erase (n : Int)) (hd.erase _) (fun x hx => by
      have h2 := h x (List.mem_of_mem_erase hx)
      have h3 : x ≠ (n : Int) := fun e => by
        subst e
        exact (List.Nodup.not_mem_erase hd) hx
      omega)
    by_cases c : (n : Int) ∈ l
    · rw [List.length_erase_of_mem c] at h1
      omega
    · rw [List.erase_of_not_mem c] at h1
      omega
section
variable {m : Mc} {N k : Nat}
theorem lead_mem (R : Right m) (hN : m.n = (N : Int)) (hk : m.k = (k : Int)) {u y x : Nat} (hx : x < k) : (u : Int) ∈ ldL m.nx k m.nx.length (y * k + x) ↔ u < N ∧ dl m u x = y := by
  have hk0 : 0 < k := by have := R.k0; omega
  have hl : m.nx.length = N * k := by have := R.nx; rw [hk, hN] at this; exact_mod_cast this
  have hd : ∀ u, dl m u x = (m.nx.getD (u * k + x) 0).toNat := fun u => by
    unfold dl nxt
    rw [hk, show ((u : Int) * (k : Int) + (x : Int)).toNat = u * k + x by
      have : (u : Int) * (k : Int) + (x : Int) = ((u * k + x : Nat) : Int) := by simp
      rw [this, Int.toNat_natCast]]
  rw [ldL_mem]
  constructor
  · rintro ⟨w, h1, h2, h3⟩
    have e3 : u = w / k := by omega
    have e4 : w % k = x := by
      have := congrArg (· % k) h2
      simpa [Nat.mod_eq_of_lt hx] using this
    have e5 : u * k + x = w := by rw [e3, ← e4, Nat.mul_comm]; exact Nat.div_add_mod w k
    have hu : u < N := by
      rw [e3]
      exact Nat.div_lt_of_lt_mul (by rw [Nat.mul_comm]; omega)
    refine ⟨hu, ?_⟩
    rw [hd, e5]
    rw [e4] at h2
    exact Nat.eq_of_mul_eq_mul_right hk0 (by omega)
  · rintro ⟨hu, e⟩
    have hb : u * k + k ≤ N * k := by rw [← Nat.succ_mul]; exact Nat.mul_le_mul_right _ hu
    refine ⟨u * k + x, by omega, ?_, ?_⟩
    · rw [← hd, e]
      congr 1
      rw [Nat.mul_comm, Nat.mul_add_mod, Nat.mod_eq_of_lt hx]
    · rw [Nat.mul_comm, Nat.mul_add_div hk0, Nat.div_eq_of_lt hx]; simp
theorem lead_int {nx : List Int} {j i : Nat} {y : Int} (h : y ∈ ldL nx k j i) : ∃ u : Nat, y = (u : Int) := by
  obtain ⟨w, _, _, rfl⟩ := ldL_mem.1 h
  exact ⟨_, rfl⟩
theorem lead_nodup (R : Right m) (hk : m.k = (k : Int)) {y x j : Nat} (hx : x < k) : (ldL m.nx k j (y * k + x)).Nodup := by
  have hk0 : 0 < k := by have := R.k0; omega
  induction j with
  | zero => simp [ldL]
  | succ j ih =>
    rw [ldL_next]
    unfold updV
    split
    · rename_i e
      rw [← e]
      rw [List.nodup_append]
      refine ⟨ih, by simp, fun a ha b hb eab => ?_⟩
      have hb' : b = ((j / k : Nat) : Int) := by simpa using hb
      obtain ⟨w, h1, h2, h3⟩ := ldL_mem.1 ha
      have e1 : w / k = j / k := by omega
      have e4 : w % k = x := by
        have := congrArg (· % k) h2
        simpa [Nat.mod_eq_of_lt hx] using this
      have e5 : j % k = x := by
        have := congrArg (· % k) e
        simp [Nat.mod_eq_of_lt hx] at this
        exact this.symm
      have : w = j := by rw [← Nat.div_add_mod w k, ← Nat.div_add_mod j k, e1, e4, e5]
      omega
    · exact ih
/-- What leads by x into the first j of the states r. -/
def wyL (m : Mc) (k x : Nat) (r : Nat → Nat) : Nat → List Int
  | 0 => []
  | j + 1 => wyL m k x r j ++ ldL m.nx k m.nx.length (r j * k + x)
theorem wyL_mem (R : Right m) (hN : m.n = (N : Int)) (hk : m.k = (k : Int)) {x : Nat} (hx : x < k) {r : Nat → Nat} {u : Nat} : ∀ {j : Nat}, (u : Int) ∈ wyL m k x r j ↔ u < N ∧ ∃ i, i < j ∧ dl m u x = r i
  | 0 => by simp [wyL]
  | j + 1 => by
    unfold wyL
    rw [List.mem_append, wyL_mem R hN hk hx, lead_mem R hN hk hx]
    constructor
    · rintro (⟨h, i, hi, e⟩ | ⟨h, e⟩)
      · exact ⟨h, i, by omega, e⟩
      · exact ⟨h, j, by omega, e⟩
    · rintro ⟨h, i, hi, e⟩
      by_cases c : i = j
      · subst c; exact .inr ⟨h, e⟩
      · exact .inl ⟨h, i, by omega, e⟩
theorem wyL_int {x : Nat} {r : Nat → Nat} {y : Int} : ∀ {j : Nat}, y ∈ wyL m k x r j → ∃ u : Nat, y = (u : Int)
  | 0, h => by simp [wyL] at h
  | j + 1, h => by
    unfold wyL at h
    rcases List.mem_append.1 h with h | h
    · exact wyL_int h
    · exact lead_int h
theorem wyL_nodup (R : Right m) (hN : m.n = (N : Int)) (hk : m.k = (k : Int)) {x : Nat} (hx : x < k) {r : Nat → Nat} : ∀ {j : Nat}, (∀ i i', i < j → i' < j → r i = r i' → i = i') → (wyL m k x r j).Nodup
  | 0, _ => by simp [wyL]
  | j + 1, h => by
    unfold wyL
    rw [List.nodup_append]
    refine ⟨wyL_nodup R hN hk hx (fun i i' h1 h2 => h i i' (by omega) (by omega)), lead_nodup R hk hx, fun a ha b hb e => ?_⟩
    obtain ⟨u, rfl⟩ := wyL_int ha
    subst e
    obtain ⟨_, i, hi, e1⟩ := (wyL_mem R hN hk hx).1 ha
    have e2 := ((lead_mem R hN hk hx).1 hb).2
    have := h i j (by omega) (by omega) (e1.symm.trans e2)
    omega
theorem wyL_len (R : Right m) (hN : m.n = (N : Int)) (hk : m.k = (k : Int)) {x : Nat} (hx : x < k) {r : Nat → Nat} {j : Nat} (h : ∀ i i', i < j → i' < j → r i = r i' → i = i') : (wyL m k x r j).length ≤ N :=
  nodup_len N _ (wyL_nodup R hN hk hx h) fun y hy => by
    obtain ⟨u, rfl⟩ := wyL_int hy
    have := ((wyL_mem R hN hk hx).1 hy).1
    omega
end
end Go.Proofs.Ytnakadlhafggkaa
