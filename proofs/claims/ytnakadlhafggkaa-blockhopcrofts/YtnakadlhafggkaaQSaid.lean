/-
  The object that parts states: parted by what they say.
-/
import Derived.Test.YtnakadlhafggkaaQSg
import Derived.Test.YtnakadlhafggkaaK3
import Derived.Test.YtnakadlhafggkaaK7
import Derived.Test.YtnakadlhafggkaaK15
import Derived.Deep.CutRange
namespace Go.Proofs.Ytnakadlhafggkaa
open Go.RowKit

/-- What the state u says at i. -/
def oAt (m : Mc) (u i : Nat) : Nat := (m.out.getD (u * pp m + i) 0).toNat
theorem alk_oAt {m : Mc} {u v i : Nat} (hi : i < pp m) (h : nowB m (u : Int) (v : Int) = true) : oAt m u i = oAt m v i := by
  have := now_iff.1 h i hi
  rw [rowO_get m _ hi, rowO_get m _ hi] at this
  unfold oAt
  have e : ∀ x : Nat, ((x : Int) * (pp m : Int) + (i : Int)).toNat = x * pp m + i := fun x => by
    have : (x : Int) * (pp m : Int) + (i : Int) = ((x * pp m + i : Nat) : Int) := by simp
    rw [this, Int.toNat_natCast]
  rw [e, e] at this
  rw [this]
theorem out_lenN {m : Mc} (R : Full m) {N : Nat} (hN : m.n = (N : Int)) : m.out.length = N * pp m := by
  unfold pp
  rcases R.r.kd with h | h
  · have := R.r.outD h
    rw [if_pos h]; omega
  · have := R.r.outM h
    have hk := R.r.k0
    rw [if_neg (by omega)]
    rw [hN, show m.k = ((m.k.toNat : Nat) : Int) by omega] at this
    exact_mod_cast this
theorem oAt_now {m : Mc} (R : Full m) {N : Nat} (hN : m.n = (N : Int)) {u v : Nat} (hu : u < N) (hv : v < N) (h : ∀ i, i < pp m → oAt m u i = oAt m v i) : nowB m (u : Int) (v : Int) = true := by
  refine now_iff.2 fun i hi => ?_
  rw [rowO_get m _ hi, rowO_get m _ hi]
  have e : ∀ x : Nat, ((x : Int) * (pp m : Int) + (i : Int)).toNat = x * pp m + i := fun x => by
    have : (x : Int) * (pp m : Int) + (i : Int) = ((x * pp m + i : Nat) : Int) := by simp
    rw [this, Int.toNat_natCast]
  have hl := out_lenN R hN
  have b : ∀ x, x < N → x * pp m + i < m.out.length := fun x hx => by
    have : x * pp m + pp m ≤ N * pp m := by rw [← Nat.succ_mul]; exact Nat.mul_le_mul_right _ hx
    omega
  have h1 := R.r.so _ (b u hu)
  have h2 := R.r.so _ (b v hv)
  have h3 := h i hi
  unfold oAt at h3
  rw [e, e]
  omega
end Go.Proofs.Ytnakadlhafggkaa
