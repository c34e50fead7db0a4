/-
  A machine's text, in plain words.
-/
import Derived.Test.YtdnmabemollbeaaDoorUTk
import Derived.Test.YtdnmabemollbeaaDoorK7
import Derived.Lib.ItoaLen
namespace Go.Proofs.YtdnmabemollbeaaDoor

def kN (m : Mc) : Nat := m.k.toNat
def nN (m : Mc) : Nat := m.n.toNat
/-- A Dfa's line of the state s with j of its ways, the line break ahead of it. -/
def dfaP (m : Mc) (s j : Nat) : List UInt8 := [10] ++ Lib.itoa (m.out.getD s 0) ++ (List.range j).flatMap fun x => [32] ++ Lib.itoa (m.nx.getD (s * kN m + x) 0)
/-- The same, a Mealy's. -/
def melP (m : Mc) (s j : Nat) : List UInt8 := (List.range j).flatMap fun x => [if x = 0 then 10 else 32] ++ Lib.itoa (m.nx.getD (s * kN m + x) 0) ++ [47] ++ Lib.itoa (m.out.getD (s * kN m + x) 0)
def stT (m : Mc) (s : Nat) : List UInt8 := if m.kind = 1 then dfaP m s (kN m) else melP m s (kN m)
def szT (m : Mc) : List UInt8 := if m.kind = 1 then [100, 102, 97, 32] ++ Lib.itoa m.k ++ [32] ++ Lib.itoa m.n else [109, 101, 97, 108, 121, 32] ++ Lib.itoa m.k ++ [32] ++ Lib.itoa m.o ++ [32] ++ Lib.itoa m.n
def expP (m : Mc) (j : Nat) : List UInt8 := szT m ++ (List.range j).flatMap (stT m)
def expT (m : Mc) : List UInt8 := expP m (nN m) ++ [10]
/-- Export: the text and the error. -/
def expV (m : Mc) : List UInt8 × Int := if (mchV m).2 = 0 then (expT m, 0) else ([], (mchV m).2)

theorem dfaP_zero (m : Mc) (s : Nat) : dfaP m s 0 = [10] ++ Lib.itoa (m.out.getD s 0) := by simp [dfaP]
theorem dfaP_succ (m : Mc) (s j : Nat) : dfaP m s (j + 1) = dfaP m s j ++ [32] ++ Lib.itoa (m.nx.getD (s * kN m + j) 0) := by
  simp [dfaP, List.range_succ]
theorem melP_zero (m : Mc) (s : Nat) : melP m s 0 = [] := rfl
theorem melP_succ (m : Mc) (s j : Nat) : melP m s (j + 1) = melP m s j ++ [if j = 0 then 10 else 32] ++ Lib.itoa (m.nx.getD (s * kN m + j) 0) ++ [47] ++ Lib.itoa (m.out.getD (s * kN m + j) 0) := by
  simp [melP, List.range_succ]
theorem expP_zero (m : Mc) : expP m 0 = szT m := by simp [expP]
theorem expP_succ (m : Mc) (j : Nat) : expP m (j + 1) = expP m j ++ stT m j := by simp [expP, List.range_succ]

theorem itoa_21 {x : Int} (h0 : 0 ≤ x) (h1 : x ≤ 9999) : (Lib.itoa x).length ≤ 21 := Lib.itoa_length_le x (by omega) (by omega)
theorem dec_pos (u : Nat) : 0 < (Lib.decDigits u).length := by rw [Lib.decDigits_length]; exact Lib.nDigits_pos u
theorem itoa_len0 (x : Int) : 0 < (Lib.itoa x).length := by
  unfold Lib.itoa
  split
  · simp
  · exact dec_pos _
theorem Right.nxB {m : Mc} (R : Right m) (j : Nat) : 0 ≤ m.nx.getD j 0 ∧ m.nx.getD j 0 ≤ 1024 := by
  have := R.n1
  by_cases h : j < m.nx.length
  · have := R.st j h; omega
  · rw [show m.nx.getD j 0 = 0 by simp [List.getD, List.getElem?_eq_none (show m.nx.length ≤ j by omega)]]; omega
theorem Full.outB {m : Mc} (F : Full m) (j : Nat) : 0 ≤ m.out.getD j 0 ∧ m.out.getD j 0 ≤ 64 := by
  have := F.o1
  by_cases h : j < m.out.length
  · have := F.r.so j h; omega
  · rw [show m.out.getD j 0 = 0 by simp [List.getD, List.getElem?_eq_none (show m.out.length ≤ j by omega)]]; omega
theorem dfaP_len {m : Mc} (F : Full m) (s : Nat) : ∀ j, (dfaP m s j).length ≤ 22 + 22 * j
  | 0 => by
    have := F.outB s
    have := itoa_21 (x := m.out.getD s 0) (by omega) (by omega)
    rw [dfaP_zero, List.length_append]; simp only [List.length_cons, List.length_nil]; omega
  | j + 1 => by
    have h := dfaP_len F s j
    have := F.r.nxB (s * kN m + j)
    have := itoa_21 (x := m.nx.getD (s * kN m + j) 0) (by omega) (by omega)
    rw [dfaP_succ]; simp only [List.length_append, List.length_cons, List.length_nil]; omega
theorem melP_len {m : Mc} (F : Full m) (s : Nat) : ∀ j, (melP m s j).length ≤ 44 * j
  | 0 => by simp [melP_zero]
  | j + 1 => by
    have h := melP_len F s j
    have := F.r.nxB (s * kN m + j)
    have := itoa_21 (x := m.nx.getD (s * kN m + j) 0) (by omega) (by omega)
    have := F.outB (s * kN m + j)
    have := itoa_21 (x := m.out.getD (s * kN m + j) 0) (by omega) (by omega)
    rw [melP_succ]; simp only [List.length_append, List.length_cons, List.length_nil]; omega
theorem kN_eq {m : Mc} (F : Full m) : (kN m : Int) = m.k := by have := F.r.k0; unfold kN; omega
theorem nN_eq {m : Mc} (F : Full m) : (nN m : Int) = m.n := by have := F.r.n0; unfold nN; omega
theorem stT_len {m : Mc} (F : Full m) (s : Nat) : (stT m s).length ≤ 2816 := by
  have hk := kN_eq F
  have := F.r.k1
  unfold stT
  split
  · have := dfaP_len F s (kN m); omega
  · have := melP_len F s (kN m); omega
theorem szT_len {m : Mc} (F : Full m) : (szT m).length ≤ 100 := by
  have h1 := itoa_21 (x := m.k) (by have := F.r.k0; omega) (by have := F.r.k1; omega)
  have h2 := itoa_21 (x := m.n) (by have := F.r.n0; omega) (by have := F.r.n1; omega)
  have h3 := itoa_21 (x := m.o) (by have := F.o0; omega) (by have := F.o1; omega)
  unfold szT
  split <;> (simp only [List.length_append, List.length_cons, List.length_nil]; omega)
theorem expP_len {m : Mc} (F : Full m) : ∀ j, (expP m j).length ≤ 100 + 2816 * j
  | 0 => by rw [expP_zero]; have := szT_len F; omega
  | j + 1 => by
    have := expP_len F j
    have := stT_len F j
    rw [expP_succ, List.length_append]; omega
theorem expT_len {m : Mc} (F : Full m) : (expT m).length ≤ 2900000 := by
  have := expP_len F (nN m)
  have := nN_eq F
  have := F.r.n1
  unfold expT
  simp only [List.length_append, List.length_cons, List.length_nil]; omega
theorem stT_d {m : Mc} (h : m.kind = 1) (s : Nat) : stT m s = dfaP m s (kN m) := by unfold stT; rw [if_pos h]
theorem stT_m {m : Mc} (h : m.kind = 2) (s : Nat) : stT m s = melP m s (kN m) := by unfold stT; rw [if_neg (by omega)]
theorem szT_d {m : Mc} (h : m.kind = 1) : szT m = [100, 102, 97, 32] ++ Lib.itoa m.k ++ [32] ++ Lib.itoa m.n := by unfold szT; rw [if_pos h]
theorem szT_m {m : Mc} (h : m.kind = 2) : szT m = [109, 101, 97, 108, 121, 32] ++ Lib.itoa m.k ++ [32] ++ Lib.itoa m.o ++ [32] ++ Lib.itoa m.n := by unfold szT; rw [if_neg (by omega)]
theorem expV_ok {m : Mc} (h : (mchV m).2 = 0) : expV m = (expT m, 0) := by unfold expV; rw [if_pos h]
theorem expV_bad {m : Mc} (h : (mchV m).2 ≠ 0) : expV m = ([], (mchV m).2) := by unfold expV; rw [if_neg h]

/-- A Mealy's line up to its way x, the line break ahead of it there from the beginning. -/
def mlQ (m : Mc) (s x : Nat) : List UInt8 := if x = 0 then [10] else melP m s x
theorem mlQ_zero (m : Mc) (s : Nat) : mlQ m s 0 = [10] := rfl
theorem mlQ_one (m : Mc) (s : Nat) : mlQ m s (0 + 1) = [10] ++ Lib.itoa (m.nx.getD (s * kN m + 0) 0) ++ [47] ++ Lib.itoa (m.out.getD (s * kN m + 0) 0) := by
  unfold mlQ; rw [if_neg (by omega), melP_succ, melP_zero]; simp
theorem mlQ_succ {m : Mc} {s x : Nat} (h : 0 < x) : mlQ m s (x + 1) = mlQ m s x ++ [32] ++ Lib.itoa (m.nx.getD (s * kN m + x) 0) ++ [47] ++ Lib.itoa (m.out.getD (s * kN m + x) 0) := by
  unfold mlQ; rw [if_neg (by omega), if_neg (by omega), melP_succ, if_neg (by omega)]
theorem mlQ_end {m : Mc} {s x : Nat} (h : 0 < x) : mlQ m s x = melP m s x := by unfold mlQ; rw [if_neg (by omega)]
theorem mlQ_len {m : Mc} (F : Full m) (s x : Nat) : (mlQ m s x).length ≤ 1 + 44 * x := by
  unfold mlQ
  split
  · simp
  · have := melP_len F s x; omega
/-- The first line's numbers, and the text of it up to the j-th. -/
def hdL (m : Mc) : List Int := if m.kind = 1 then [m.k, m.n, 0] else [m.k, m.o, m.n]
def hdT (m : Mc) (j : Nat) : List UInt8 := (if m.kind = 1 then [100, 102, 97] else [109, 101, 97, 108, 121]) ++ (List.range j).flatMap fun t => [32] ++ Lib.itoa ((hdL m).getD t 0)
theorem hdT_zero (m : Mc) : hdT m 0 = if m.kind = 1 then [100, 102, 97] else [109, 101, 97, 108, 121] := by simp [hdT]
theorem hdT_succ (m : Mc) (j : Nat) : hdT m (j + 1) = hdT m j ++ [32] ++ Lib.itoa ((hdL m).getD j 0) := by simp [hdT, List.range_succ]
theorem hdT_d {m : Mc} (h : m.kind = 1) : hdT m 2 = szT m := by simp [hdT, hdL, szT, h, List.range_succ]
theorem hdT_m {m : Mc} (h : m.kind = 2) : hdT m 3 = szT m := by simp [hdT, hdL, szT, h, List.range_succ]
theorem hdL_fit {m : Mc} (F : Full m) (j : Nat) : 0 ≤ (hdL m).getD j 0 ∧ (hdL m).getD j 0 ≤ 1024 := by
  have := F.r.k0; have := F.r.k1; have := F.r.n0; have := F.r.n1; have := F.o0; have := F.o1
  unfold hdL
  split <;> (rcases j with _ | _ | _ | j <;> simp <;> omega)
theorem hdT_len {m : Mc} (F : Full m) : ∀ j, (hdT m j).length ≤ 5 + 22 * j
  | 0 => by rw [hdT_zero]; split <;> simp
  | j + 1 => by
    have := hdT_len F j
    have := hdL_fit F j
    have := itoa_21 (x := (hdL m).getD j 0) (by omega) (by omega)
    rw [hdT_succ]; simp only [List.length_append, List.length_cons, List.length_nil]; omega

end Go.Proofs.YtdnmabemollbeaaDoor
