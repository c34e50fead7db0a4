/-
  Pieces of states, one by one.
-/
import Derived.Test.YtagoilabphmdfaaDoorUTk
namespace Go.Proofs.YtagoilabphmdfaaDoor

theorem wyD_split (n : Int) : ∀ {x K : Nat}, x ≤ K → ∃ r, wyD n K = wyD n x ++ r
  | x, 0, h => ⟨[], by obtain rfl : x = 0 := by omega
                       rfl⟩
  | x, K + 1, h => by
    by_cases e : x = K + 1
    · exact ⟨[], by rw [e, List.append_nil]⟩
    · obtain ⟨r, hr⟩ := wyD_split n (show x ≤ K by omega)
      exact ⟨r ++ [.tx [32], .nm 0 (n - 1) 32], by rw [wyD, hr, List.append_assoc]⟩
theorem stD_zero (o n : Int) : stD o n 0 = [.tx [10], .nm 0 (o - 1) 33] := by simp [stD, wyD]
theorem stD_succ (o n : Int) (x : Nat) : stD o n (x + 1) = stD o n x ++ [.tx [32], .nm 0 (n - 1) 32] := by simp [stD, wyD]
theorem stD_split (o n : Int) {x K : Nat} (h : x ≤ K) : ∃ r, stD o n K = stD o n x ++ r := by
  obtain ⟨r, hr⟩ := wyD_split n h
  exact ⟨r, by simp [stD, hr]⟩
theorem stM_succ (o n : Int) (x : Nat) : stM o n (x + 1) = stM o n x ++ [.tx [if x = 0 then 10 else 32], .nm 0 (n - 1) 32] ++ [.tx [47], .nm 0 (o - 1) 33] := by simp [stM]
theorem stM_split (o n : Int) : ∀ {x K : Nat}, x ≤ K → ∃ r, stM o n K = stM o n x ++ r
  | x, 0, h => ⟨[], by obtain rfl : x = 0 := by omega
                       rfl⟩
  | x, K + 1, h => by
    by_cases e : x = K + 1
    · exact ⟨[], by rw [e, List.append_nil]⟩
    · obtain ⟨r, hr⟩ := stM_split o n (show x ≤ K by omega)
      exact ⟨r ++ [.tx [if K = 0 then 10 else 32], .nm 0 (n - 1) 32, .tx [47], .nm 0 (o - 1) 33], by rw [stM, hr, List.append_assoc]⟩
theorem stsP_split (kd k o n : Int) : ∀ {x K : Nat}, x ≤ K → ∃ r, stsP kd k o n K = stsP kd k o n x ++ r
  | x, 0, h => ⟨[], by obtain rfl : x = 0 := by omega
                       rfl⟩
  | x, K + 1, h => by
    by_cases e : x = K + 1
    · exact ⟨[], by rw [e, List.append_nil]⟩
    · obtain ⟨r, hr⟩ := stsP_split kd k o n (show x ≤ K by omega)
      exact ⟨r ++ stP kd k o n, by rw [stsP, hr, List.append_assoc]⟩
theorem tk_more {b : List UInt8} {i j : Nat} {ps qs : List Pc} {l m : List (Int × Int)} {j' : Nat} (h : tk b i ps = .ok (l, j)) (h' : tk b j qs = .ok (m, j')) : tk b i (ps ++ qs) = .ok (l ++ m, j') := by
  rw [tk_app_ok h, h']; rfl
theorem tk_stop {b : List UInt8} {i j : Nat} {ps qs : List Pc} {l : List (Int × Int)} {x : Nat × Int} (h : tk b i ps = .ok (l, j)) (h' : tk b j qs = .error x) (rs : List Pc) : tk b i (ps ++ qs ++ rs) = .error x := by
  refine tk_app_bad ?_
  rw [tk_app_ok h, h']; rfl

end Go.Proofs.YtagoilabphmdfaaDoor
