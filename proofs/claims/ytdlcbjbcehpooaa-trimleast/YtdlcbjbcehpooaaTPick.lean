/-
  A machine of some of the states of another one, with new numbers, in plain words.
-/
import Derived.Test.YtdlcbjbcehpooaaTSMath
namespace Go.Proofs.Ytdlcbjbcehpooaa
open Go.RowKit

/-- How many are said a state. -/
def pp (m : Mc) : Nat := if m.kind = 1 then 1 else m.k.toNat
/-- Where s leads by its first n symbols, by new numbers. -/
def rowN (m : Mc) (f : Int → Int) (s : Int) (n : Nat) : List Int := (List.range n).map fun y : Nat => f (nxt m s (y : Int))
/-- The first n of what s says. -/
def rowO (m : Mc) (s : Int) (n : Nat) : List Int := (List.range n).map fun y : Nat => m.out.getD (s * (pp m : Int) + (y : Int)).toNat 0
def nxR (m : Mc) (f : Int → Int) (S : List Int) : List Int := S.flatMap fun s => rowN m f s m.k.toNat
def ouR (m : Mc) (S : List Int) : List Int := S.flatMap fun s => rowO m s (pp m)
/-- The machine of the states S alone, in their order; f: their new numbers. -/
def pickV (m : Mc) (S : List Int) (f : Int → Int) : Mc := ⟨m.kind, m.k, m.o, S.length, nxR m f S, ouR m S⟩

theorem rowN_len (m : Mc) (f : Int → Int) (s : Int) (n : Nat) : (rowN m f s n).length = n := by simp [rowN]
theorem rowO_len (m : Mc) (s : Int) (n : Nat) : (rowO m s n).length = n := by simp [rowO]
theorem rowN_succ (m : Mc) (f : Int → Int) (s : Int) (n : Nat) : rowN m f s (n + 1) = rowN m f s n ++ [f (nxt m s (n : Int))] := by simp [rowN, List.range_succ]
theorem rowO_succ (m : Mc) (s : Int) (n : Nat) : rowO m s (n + 1) = rowO m s n ++ [m.out.getD (s * (pp m : Int) + (n : Int)).toNat 0] := by simp [rowO, List.range_succ]
theorem take_snoc {S : List Int} {i : Nat} (h : i < S.length) : S.take (i + 1) = S.take i ++ [S.getD i 0] := by
  rw [List.take_add_one]; simp [h]
theorem nxR_snoc (m : Mc) (f : Int → Int) (S : List Int) (s : Int) : nxR m f (S ++ [s]) = nxR m f S ++ rowN m f s m.k.toNat := by simp [nxR]
theorem ouR_snoc (m : Mc) (S : List Int) (s : Int) : ouR m (S ++ [s]) = ouR m S ++ rowO m s (pp m) := by simp [ouR]
theorem nxR_len (m : Mc) (f : Int → Int) : ∀ (S : List Int), (nxR m f S).length = S.length * m.k.toNat
  | [] => by simp [nxR]
  | s :: S => by
    have := nxR_len m f S
    unfold nxR at this ⊢
    rw [List.flatMap_cons, List.length_append, rowN_len, this, List.length_cons, Nat.add_mul, Nat.one_mul, Nat.add_comm]
theorem ouR_len (m : Mc) : ∀ (S : List Int), (ouR m S).length = S.length * pp m
  | [] => by simp [ouR]
  | s :: S => by
    have := ouR_len m S
    unfold ouR at this ⊢
    rw [List.flatMap_cons, List.length_append, rowO_len, this, List.length_cons, Nat.add_mul, Nat.one_mul, Nat.add_comm]
theorem pp_le {m : Mc} (R : Right m) : pp m ≤ 64 ∧ 1 ≤ pp m := by
  have := R.k0
  have := R.k1
  unfold pp; split <;> omega
theorem out_len {m : Mc} (R : Right m) : (m.out.length : Int) = m.n * (pp m : Int) := by
  unfold pp
  rcases R.kd with h | h
  · rw [if_pos h, R.outD h]; omega
  · rw [if_neg (by omega), R.outM h]
    have := R.k0
    rw [Int.toNat_of_nonneg (by omega)]
/-- The places of what s says. -/
theorem said_of {m : Mc} (R : Right m) {s : Int} (s0 : 0 ≤ s) (s1 : s < m.n) : ∃ Q : Nat, s * (pp m : Int) = (Q : Int) ∧ (s + 1) * (pp m : Int) = ((Q + pp m : Nat) : Int) ∧ Q + pp m ≤ m.out.length ∧ Q ≤ 65536 := by
  have h0 : 0 ≤ s * (pp m : Int) := Int.mul_nonneg s0 (by omega)
  have h1 : (s + 1) * (pp m : Int) ≤ m.n * (pp m : Int) := Int.mul_le_mul_of_nonneg_right (by omega) (by omega)
  have h2 : (s + 1) * (pp m : Int) = s * (pp m : Int) + (pp m : Int) := by rw [Int.add_mul, Int.one_mul]
  have h3 := out_len R
  have h4 : m.n * (pp m : Int) ≤ 1024 * 64 := Int.mul_le_mul R.n1 (by have := pp_le R; omega) (by omega) (by omega)
  refine ⟨(s * (pp m : Int)).toNat, by omega, by omega, by omega, by omega⟩
theorem pickV_congr {m : Mc} {S : List Int} {f g : Int → Int} (h : ∀ s ∈ S, ∀ y : Nat, (y : Int) < m.k → f (nxt m s y) = g (nxt m s y)) : pickV m S f = pickV m S g := by
  have : nxR m f S = nxR m g S := by
    unfold nxR
    have hr : ∀ s ∈ S, rowN m f s m.k.toNat = rowN m g s m.k.toNat := fun s hs => by
      unfold rowN
      apply List.map_congr_left
      intro y hy
      rw [List.mem_range] at hy
      exact h s hs y (by omega)
    clear h
    induction S with
    | nil => rfl
    | cons s S ih => rw [List.flatMap_cons, List.flatMap_cons, hr s (by simp), ih fun t ht => hr t (by simp [ht])]
  unfold pickV; rw [this]

/-- Canon, as the document has it. -/
def canM (m : Mc) : Mc := pickV m (rchV m).1 fun t => ((rchV m).1.idxOf t : Nat)

end Go.Proofs.Ytdlcbjbcehpooaa
