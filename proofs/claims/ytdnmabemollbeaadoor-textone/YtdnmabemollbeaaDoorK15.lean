/-
  Some texts of this seat, one behind the other.
-/
import Derived.Test.YtdnmabemollbeaaDoorK2
import Derived.Test.YtdnmabemollbeaaDoorK3
import Derived.Test.YtdnmabemollbeaaDoorK7
import Derived.Test.YtdnmabemollbeaaDoorK8
/-
  States that are alike up to a length, by what they say and where they lead: in plain words.
-/
namespace Go.Proofs.YtdnmabemollbeaaDoor
open Go.RowKit

/-- What is said, and steps that lead to states that are alike up to n: alike up to n. -/
theorem alk_more {m : Mc} : ∀ (n : Nat) {s t : Int}, nowB m s t = true → (∀ x : Nat, (x : Int) < m.k → alk m n (nxt m s x) (nxt m t x) = true) → alk m n s t = true
  | 0, s, t, h, _ => by unfold alk; split; { exact h }; rfl
  | n + 1, s, t, h, hx => alk_succ.2 ⟨alk_more n h fun x h1 => alk_less (hx x h1), fun _ => h, fun x h1 => alk_less (hx x h1)⟩
theorem alk_rows {m : Mc} (R : Right m) (n : Nat) {s t : Int} : alk m (n + 1) s t = true ↔ nowB m s t = true ∧ ∀ x : Nat, (x : Int) < m.k → alk m n (nxt m s x) (nxt m t x) = true := by
  constructor
  · intro h
    obtain ⟨h1, h2, h3⟩ := alk_succ.1 h
    refine ⟨?_, h3⟩
    rcases R.kd with hk | hk
    · have h0 := alk_mono (Nat.zero_le n) h1
      unfold alk at h0
      rw [if_pos hk] at h0
      exact h0
    · exact h2 hk
  · rintro ⟨h1, h2⟩
    exact alk_succ.2 ⟨alk_more n h1 h2, fun _ => h1, h2⟩
theorem now_iff {m : Mc} {s t : Int} : nowB m s t = true ↔ ∀ i, i < pp m → (rowO m s (pp m)).getD i 0 = (rowO m t (pp m)).getD i 0 := by
  unfold nowB
  constructor
  · intro h i _; rw [of_decide_eq_true h]
  · intro h
    refine decide_eq_true ?_
    refine List.ext_getElem? fun i => ?_
    by_cases c : i < pp m
    · have h1 := h i c
      simp only [List.getD] at h1
      rw [List.getElem?_eq_getElem (by rw [rowO_len]; exact c), List.getElem?_eq_getElem (by rw [rowO_len]; exact c)] at h1 ⊢
      simpa using h1
    · rw [List.getElem?_eq_none (by rw [rowO_len]; omega), List.getElem?_eq_none (by rw [rowO_len]; omega)]
theorem aft_len (m : Mc) (n : Nat) : (aftL m n).length = m.n.toNat := clL_len _ _
theorem aft_at {m : Mc} (n : Nat) {s : Int} (s0 : 0 ≤ s) (s1 : s < m.n) : (aftL m n).getD s.toNat 0 = cl (alkR m n) s.toNat := cl_at _ (by omega)
theorem aft_iff {m : Mc} (n : Nat) {s t : Int} (s0 : 0 ≤ s) (s1 : s < m.n) (t0 : 0 ≤ t) (t1 : t < m.n) : (aftL m n).getD s.toNat 0 = (aftL m n).getD t.toNat 0 ↔ alk m n s t = true := by
  rw [aft_at n s0 s1, aft_at n t0 t1, cl_iff (alk_eqv m n m.n.toNat) (by omega) (by omega)]
  unfold alkR
  rw [Int.toNat_of_nonneg s0, Int.toNat_of_nonneg t0]
theorem aft_range {m : Mc} (R : Right m) (n : Nat) {j : Nat} (hj : j < (aftL m n).length) : 0 ≤ (aftL m n).getD j 0 ∧ (aftL m n).getD j 0 ≤ 1024 := by
  rw [aft_len] at hj
  have h1 := cl_range (alk_eqv m n m.n.toNat) hj
  have h2 := nc_le (alkR m n) m.n.toNat
  have h3 : (aftL m n).getD j 0 = cl (alkR m n) j := cl_at _ hj
  have := R.n1
  rw [h3]; omega
theorem said_rng {m : Mc} (R : Right m) {s : Nat} (hs : s < m.n.toNat) {i : Nat} (hi : i < pp m) : 0 ≤ (rowO m s (pp m)).getD i 0 ∧ (rowO m s (pp m)).getD i 0 < m.o := by
  obtain ⟨Q, hQ, hQ2, hQl, hQ3⟩ := said_of R (s := (s : Int)) (by omega) (by omega)
  rw [rowO_get m s hi, hQ]
  have := R.so (Q + i) (by omega)
  rwa [show ((Q : Int) + (i : Int)).toNat = Q + i by omega]
/-- A round that splits nothing tells the same classes. -/
theorem aft_still {m : Mc} (n : Nat) : aftL m (n + 1) = aftL m n ↔ Still m n := by
  constructor
  · intro e s t s0 s1 t0 t1 h
    have h1 := (aft_iff n s0 s1 t0 t1).2 h
    rw [← e] at h1
    exact (aft_iff (n + 1) s0 s1 t0 t1).1 h1
  · intro h
    refine (cls_congr fun s t hs ht => ?_).2.1
    apply Bool.eq_iff_iff.2
    exact ⟨fun e => alk_less e, fun e => h s t (by omega) (by omega) (by omega) (by omega) e⟩
theorem rd_is {m : Mc} (n0 : 1 ≤ m.n) {r : Nat} (h : Still m r) (hl : ∀ j, j < r → ¬ Still m j) : rdV m = r := by
  obtain ⟨h1, h2, _⟩ := rdV_spec n0
  rcases Nat.lt_trichotomy (rdV m) r with c | c | c
  · exact absurd h1 (hl _ c)
  · exact c
  · exact absurd h (h2 _ c)
theorem rd_le {m : Mc} (n0 : 1 ≤ m.n) {r : Nat} (hl : ∀ j, j < r → ¬ Still m j) : r ≤ rdV m ∧ (rdV m : Int) + 1 ≤ m.n := by
  obtain ⟨h1, _, h3⟩ := rdV_spec n0
  refine ⟨?_, by omega⟩
  rcases Nat.lt_or_ge (rdV m) r with c | c
  · exact absurd h1 (hl _ c)
  · exact c

end Go.Proofs.YtdnmabemollbeaaDoor

/-
  After and Classes, as the document has them.
-/
namespace Go.Proofs.YtdnmabemollbeaaDoor
open Go.RowKit Go.Maps

/-- After, as the document has it: the classes and the error. -/
def afV (m : Mc) (n : Int) : List Int × Int := if (mchV m).2 ≠ 0 then ([], (mchV m).2) else if n < 0 then ([], 1) else (aftL m n.toNat, 0)
theorem afV_err {m : Mc} {n : Int} (h : (mchV m).2 ≠ 0) : afV m n = ([], (mchV m).2) := by unfold afV; rw [if_pos h]
theorem afV_arg {m : Mc} {n : Int} (h : (mchV m).2 = 0) (hn : n < 0) : afV m n = ([], 1) := by unfold afV; rw [if_neg (by simp [h]), if_pos hn]
theorem afV_ok {m : Mc} {n : Int} (h : (mchV m).2 = 0) (hn : 0 ≤ n) : afV m n = (aftL m n.toNat, 0) := by unfold afV; rw [if_neg (by simp [h]), if_neg (by omega)]
/-- Classes, as the document has it: the classes, the least length, the error. -/
def csV (m : Mc) : List Int × Int × Int := if (mchV m).2 ≠ 0 then ([], 0, (mchV m).2) else (aftL m (rdV m), (rdV m : Nat), 0)
theorem csV_err {m : Mc} (h : (mchV m).2 ≠ 0) : csV m = ([], 0, (mchV m).2) := by unfold csV; rw [if_pos h]
theorem csV_ok {m : Mc} (h : (mchV m).2 = 0) : csV m = (aftL m (rdV m), ((rdV m : Nat) : Int), 0) := by unfold csV; rw [if_neg (by simp [h])]
def AfPost (m : Mc) (n : Int) (w : World) (e : Ending) (w' : World) : Prop :=
  ∃ v, e = .returned (.tuple #[v, .int .i64 (afV m n).2]) ∧ OwnL .i64 3 w' w.heap.size v (afV m n).1 ∧ Below w.heap.size w w'
def CsPost (m : Mc) (w : World) (e : Ending) (w' : World) : Prop :=
  ∃ v, e = .returned (.tuple #[v, .int .i64 (csV m).2.1, .int .i64 (csV m).2.2]) ∧ OwnL .i64 3 w' w.heap.size v (csV m).1 ∧ Below w.heap.size w w'
theorem aft_most {m : Mc} (R : Right m) {r : Nat} {n : Int} (h0 : (r : Int) ≤ n) (h1 : (r : Int) = n ∨ Still m r) (h2 : ∀ j, j < r → ¬ Still m j) : aftL m n.toNat = aftL m r := by
  rcases h1 with h1 | h1
  · rw [show n.toNat = r by omega]
  · have e := rd_is R.n0 h1 h2
    rw [aft_end R (n := n.toNat) (by omega), e]
theorem rd_most {m : Mc} (R : Right m) {r : Nat} (h1 : (r : Int) = m.n - 1 ∨ Still m r) (h2 : ∀ j, j < r → ¬ Still m j) : rdV m = r := by
  rcases h1 with h1 | h1
  · have := rd_le R.n0 h2
    omega
  · exact rd_is R.n0 h1 h2

end Go.Proofs.YtdnmabemollbeaaDoor
