/-
  A cache that was new, and one word Put: what is told of the beginnings, and how many there are.
-/
import Derived.Test.YtemalidanjfmkaaNGet
namespace Go.Proofs.Ytemalidanjfmkaa
open Go.RowKit

theorem getV_bg (c : Cs) (u : List Int) : (getV c u).bg = c.bg := by unfold getV; split <;> rfl
theorem getV_find (c : Cs) (u v : List Int) : findV (getV c u) v = findV c v := by unfold getV; split <;> rfl
theorem frs_one (w : List Int) : ∀ n, n ≤ w.length → (frs w (n + 1) [[]]).length = n + 1
  | 0, _ => by rw [frs]; simp [frs]
  | n + 1, h => by
    have ih := frs_one w n (by omega)
    rw [frs]
    have hno : w.take (n + 1) ∉ frs w (n + 1) [[]] := by
      rw [frs_mem]
      rintro (q | ⟨i, hi, q⟩)
      · have := congrArg List.length (List.mem_singleton.1 q)
        rw [List.length_take, List.length_nil] at this
        omega
      · have := congrArg List.length q
        rw [List.length_take, List.length_take] at this
        omega
    show (if w.take (n + 1) ∈ frs w (n + 1) [[]] then frs w (n + 1) [[]] else frs w (n + 1) [[]] ++ [w.take (n + 1)]).length = _
    rw [if_neg hno, List.length_append, ih]; rfl
theorem beg_nodes {kd k o most : Int} {w out : List Int} (h : (putV (newV kd k o most) w out).2 = 0) : (putV (newV kd k o most) w out).1.bg.length = w.length + 1 := by
  rw [(put_ok h).1]
  exact frs_one w w.length (Nat.le_refl _)
theorem beg_none {kd k o most : Int} {w out : List Int} (h : (putV (newV kd k o most) w out).2 ≠ 0) : (putV (newV kd k o most) w out).1.bg.length = 1 := by
  rw [put_err h]; rfl
theorem beg_dfa {k o most : Int} {w out : List Int} (h : (putV (newV 1 k o most) w out).2 = 0) {n : Nat} (hn : n ≤ w.length) : (findV (putV (newV 1 k o most) w out).1 (w.take n)).isSome = decide (n = w.length) := by
  rw [(put_ok h).1]
  unfold findV
  rw [if_neg (by rintro ⟨q, -⟩; exact absurd q (by decide : (1 : Int) ≠ 2))]
  show (fndL 1 (w.take n) [w] [out]).isSome = _
  rw [fndL, fndL]
  by_cases e : n = w.length
  · rw [if_pos ⟨rfl, by rw [e, List.take_length]⟩, decide_eq_true e]; rfl
  · rw [if_neg (by rintro ⟨-, q⟩; have := congrArg List.length q; rw [List.length_take] at this; omega), if_neg (by rintro ⟨q, -⟩; exact absurd q (by decide)), decide_eq_false e]; rfl
  all_goals simp
end Go.Proofs.Ytemalidanjfmkaa
