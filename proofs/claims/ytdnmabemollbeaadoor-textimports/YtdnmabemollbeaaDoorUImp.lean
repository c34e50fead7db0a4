/-
  A text as a machine, in plain words: as the program reads it.
-/
import Derived.Test.YtdnmabemollbeaaDoorURd
import Derived.Test.YtdnmabemollbeaaDoorK2
namespace Go.Proofs.YtdnmabemollbeaaDoor

/-- Which kind a text is taken for. -/
def kdV (b : List UInt8) : Int := if b.head? = some 100 then 1 else 2
/-- The first line's numbers. -/
def hdV (kd k o n : Int) : List (Int × Int) := if kd = 1 then [(1, k), (3, n)] else [(1, k), (33, o), (3, n)]
def lK (l : List (Int × Int)) : Int := (pk 1 l).headD 0
def lO (kd : Int) (l : List (Int × Int)) : Int := if kd = 1 then 2 else (pk 33 l).headD 0
def lN (l : List (Int × Int)) : Int := (pk 3 l).headD 0
/-- All behind the first line. -/
def imB (b : List UInt8) (kd k o n : Int) (j : Nat) : Except (Nat × Int) Mc := match tk b j (bdP kd k o n) with
  | .error x => .error x
  | .ok (l, q) => if q < b.length then .error (q, 6) else .ok ⟨kd, k, o, n, pk 32 l, pk 33 l⟩
/-- The machine whose text b is, read as one of kind kd; or the first fault. -/
def imK (b : List UInt8) (kd : Int) : Except (Nat × Int) Mc := match tk b 0 (hdP kd) with
  | .error x => .error x
  | .ok (l, j) => imB b kd (lK l) (lO kd l) (lN l) j
def imP (b : List UInt8) : Except (Nat × Int) Mc := if 16777216 < b.length then .error (0, 2) else imK b (kdV b)

theorem hdV_d (k o n : Int) : hdV 1 k o n = [(1, k), (3, n)] := rfl
theorem hdV_m (k o n : Int) : hdV 2 k o n = [(1, k), (33, o), (3, n)] := rfl
theorem lK_hd {kd : Int} (k o n : Int) : lK (hdV kd k o n) = k := by unfold lK hdV; split <;> simp [pk]
theorem lN_hd {kd : Int} (k o n : Int) : lN (hdV kd k o n) = n := by unfold lN hdV; split <;> simp [pk]
theorem lO_hd {kd : Int} (k o n : Int) (h : kd = 1 → o = 2) : lO kd (hdV kd k o n) = o := by
  unfold lO hdV
  split
  · rename_i e; exact (h e).symm
  · simp [pk]
theorem imP_long {b : List UInt8} (h : 16777216 < b.length) : imP b = .error (0, 2) := by unfold imP; rw [if_pos h]
theorem imP_short {b : List UInt8} (h : ¬ 16777216 < b.length) : imP b = imK b (kdV b) := by unfold imP; rw [if_neg h]
theorem imK_bad {b : List UInt8} {kd : Int} {x : Nat × Int} (h : tk b 0 (hdP kd) = .error x) : imK b kd = .error x := by unfold imK; rw [h]
theorem imK_ok {b : List UInt8} {kd k o n : Int} {j : Nat} (h : tk b 0 (hdP kd) = .ok (hdV kd k o n, j)) (ho : kd = 1 → o = 2) : imK b kd = imB b kd k o n j := by
  unfold imK; rw [h]; simp only []; rw [lK_hd, lN_hd, lO_hd k o n ho]
theorem imB_bad {b : List UInt8} {kd k o n : Int} {j : Nat} {x : Nat × Int} (h : tk b j (bdP kd k o n) = .error x) : imB b kd k o n j = .error x := by unfold imB; rw [h]
theorem imB_more {b : List UInt8} {kd k o n : Int} {j q : Nat} {l : List (Int × Int)} (h : tk b j (bdP kd k o n) = .ok (l, q)) (hq : q < b.length) : imB b kd k o n j = .error (q, 6) := by unfold imB; rw [h]; simp only []; rw [if_pos hq]
theorem imB_ok {b : List UInt8} {kd k o n : Int} {j q : Nat} {l : List (Int × Int)} (h : tk b j (bdP kd k o n) = .ok (l, q)) (hq : ¬ q < b.length) : imB b kd k o n j = .ok ⟨kd, k, o, n, pk 32 l, pk 33 l⟩ := by unfold imB; rw [h]; simp only []; rw [if_neg hq]
/-- What Import answers: the machine, the error, the place. -/
def mcZ : Mc := ⟨0, 0, 0, 0, [], []⟩
def imV (b : List UInt8) (r : Except (Nat × Int) Mc) : Mc × Int × Int := match r with
  | .error x => (mcZ, x.2, (x.1 : Int))
  | .ok m => (m, 0, (b.length : Int))
theorem bdP_eq (kd k o n : Int) : bdP kd k o n = stsP kd k o n n.toNat ++ [.tx [10]] := rfl
theorem stsP_succ (kd k o n : Int) (j : Nat) : stsP kd k o n (j + 1) = stsP kd k o n j ++ stP kd k o n := rfl
/-- The first line, piece by piece. -/
theorem hd_d : hdP 1 = [.tx [100, 102, 97, 32], .nm 1 64 1] ++ [.tx [32], .nm 1 1024 3] := rfl
theorem hd_m : hdP 2 = [.tx [109, 101, 97, 108, 121, 32], .nm 1 64 1] ++ [.tx [32], .nm 1 64 33] ++ [.tx [32], .nm 1 1024 3] := rfl
theorem kdV_cases (b : List UInt8) : (kdV b = 1 ∧ b.head? = some 100) ∨ (kdV b = 2 ∧ b.head? ≠ some 100) := by
  unfold kdV
  by_cases h : b.head? = some 100
  · exact .inl ⟨if_pos h, h⟩
  · exact .inr ⟨if_neg h, h⟩

end Go.Proofs.YtdnmabemollbeaaDoor
