/-
  What a machine says are numbers below its O.
-/
import Derived.Test.YtlcablkhomnieaaK16
import Derived.Test.YtlcablkhomnieaaK2
import Derived.Test.YtlcablkhomnieaaK28
namespace Go.Proofs.Ytlcablkhomnieaa

theorem said_in {m : Mc} (R : Right m) : ∀ (w : List Int) (s : Int) (acc : List Int), 0 ≤ s → s < m.n → Wrd m.k w → (∀ x ∈ acc, 0 ≤ x ∧ x < m.o) → ∀ x ∈ (goV m s w acc).2, 0 ≤ x ∧ x < m.o
  | [], s, acc, s0, s1, _, ha => by
    intro x hx
    rcases R.kd with k | k
    · rw [goV_nil1 k, List.mem_singleton] at hx
      subst hx
      exact R.so _ (by have := R.outD k; omega)
    · rw [goV_nil2 (by omega)] at hx; exact ha x hx
  | y :: w, s, acc, s0, s1, hw, ha => by
    have hy := hw y (by simp)
    have hw' : Wrd m.k w := fun z hz => hw z (by simp [hz])
    obtain ⟨P, hP, hl, -⟩ := way_of R s0 s1 hy.1 hy.2
    obtain ⟨t0, t1⟩ := R.st P hl
    rcases R.kd with k | k
    · rw [goV_cons1 (by omega) hP]; exact said_in R w _ acc t0 t1 hw' ha
    · rw [goV_cons2 k hP]
      refine said_in R w _ _ t0 t1 hw' fun x hx => ?_
      rcases List.mem_append.1 hx with hx | hx
      · exact ha x hx
      · rw [List.mem_singleton] at hx; subst hx
        exact R.so P (by have := R.outM k; have := R.nx; omega)
theorem inB_of {b : Int} {l : List Int} (h : ∀ x ∈ l, 0 ≤ x ∧ x < b) : inB b l = true := by
  unfold inB
  rw [List.all_eq_true]
  intro x hx
  exact decide_eq_true (h x hx)

end Go.Proofs.Ytlcablkhomnieaa
