/-
  Machines in plain words: which tables are machines and where the first fault is; where a word leads, and what is said.
-/
import Derived.Test.YtdlcbjbcehpooaaLists
namespace Go.Proofs.Ytdlcbjbcehpooaa
open Go.RowKit

/-- A machine's table. -/
structure Mc where
  kind : Int
  k : Int
  o : Int
  n : Int
  nx : List Int
  out : List Int

/-- The first place of l whose number is not from 0 to n - 1. -/
def bdAt (l : List Int) (n : Int) : Option Nat := first (badB (fun i => l.getD i 0) n) l.length
def bdV (l : List Int) (n : Int) : Int := match bdAt l n with
  | some i => i
  | none => l.length
theorem bdV_at {l : List Int} {n : Int} {j : Nat} (hj : j < l.length) (hb : badB (fun i => l.getD i 0) n j = true) (hg : ∀ i, i < j → badB (fun i => l.getD i 0) n i = false) : bdV l n = j := by
  unfold bdV bdAt; rw [first_some hj hb hg]
theorem bdV_none {l : List Int} {n : Int} (hg : ∀ i, i < l.length → badB (fun i => l.getD i 0) n i = false) : bdV l n = l.length := by
  unfold bdV bdAt; rw [first_none hg]
theorem bdAt_cases (l : List Int) (n : Int) : (bdAt l n = none ∧ ∀ j, j < l.length → 0 ≤ l.getD j 0 ∧ l.getD j 0 < n) ∨ ∃ i, bdAt l n = some i ∧ i < l.length := by
  rcases first_cases (badB (fun i => l.getD i 0) n) l.length with ⟨h, hl⟩ | ⟨i, h, hi, _, _⟩
  · exact .inl ⟨h, fun j hj => bad_not (hl j hj)⟩
  · exact .inr ⟨i, h, hi⟩

/-- The sizes' first fault; 0: none. lo, hi, p: what is asked of O, and how many are said a state. -/
def szV (m : Mc) (lo hi p : Int) : Int :=
  if m.k < 1 ∨ 64 < m.k then 1 else if m.o < lo ∨ hi < m.o then 33 else if m.n < 1 ∨ 1024 < m.n then 3
  else if (m.nx.length : Int) ≠ m.n * m.k ∨ (m.out.length : Int) ≠ m.n * p then 31 else 0
/-- The entries' first fault. -/
def enV (m : Mc) : Int × Int := match bdAt m.nx m.n with
  | some i => (i, 32)
  | none => match bdAt m.out m.o with
    | some i => (i, 33)
    | none => (0, 0)
/-- Check, as the document has it: the place and the error. -/
def mchV (m : Mc) : Int × Int :=
  if m.kind = 1 then (if szV m 2 2 1 = 0 then enV m else (0, szV m 2 2 1))
  else if m.kind = 2 then (if szV m 1 64 m.k = 0 then enV m else (0, szV m 1 64 m.k))
  else (0, 30)

theorem enV_state {m : Mc} {i : Nat} (h : bdAt m.nx m.n = some i) : enV m = ((i : Int), 32) := by unfold enV; rw [h]
theorem enV_out {m : Mc} {i : Nat} (h : bdAt m.nx m.n = none) (h2 : bdAt m.out m.o = some i) : enV m = ((i : Int), 33) := by unfold enV; rw [h, h2]
theorem enV_ok {m : Mc} (h : bdAt m.nx m.n = none) (h2 : bdAt m.out m.o = none) : enV m = (0, 0) := by unfold enV; rw [h, h2]
theorem bdV_some {l : List Int} {n : Int} {i : Nat} (h : bdAt l n = some i) : bdV l n = i := by unfold bdV; rw [h]
theorem bdV_no {l : List Int} {n : Int} (h : bdAt l n = none) : bdV l n = l.length := by unfold bdV; rw [h]

theorem szV_arg {m : Mc} {lo hi p : Int} (h : m.k < 1 ∨ 64 < m.k) : szV m lo hi p = 1 := by unfold szV; rw [if_pos h]
theorem szV_o {m : Mc} {lo hi p : Int} (h : 1 ≤ m.k) (h' : m.k ≤ 64) (h1 : m.o < lo ∨ hi < m.o) : szV m lo hi p = 33 := by unfold szV; rw [if_neg (by omega), if_pos h1]
theorem szV_n {m : Mc} {lo hi p : Int} (h : 1 ≤ m.k) (h' : m.k ≤ 64) (h1 : lo ≤ m.o) (h1' : m.o ≤ hi) (h2 : m.n < 1 ∨ 1024 < m.n) : szV m lo hi p = 3 := by unfold szV; rw [if_neg (by omega), if_neg (by omega), if_pos h2]
theorem szV_shape {m : Mc} {lo hi p : Int} (h : 1 ≤ m.k) (h' : m.k ≤ 64) (h1 : lo ≤ m.o) (h1' : m.o ≤ hi) (h2 : 1 ≤ m.n) (h2' : m.n ≤ 1024) (h3 : (m.nx.length : Int) ≠ m.n * m.k ∨ (m.out.length : Int) ≠ m.n * p) : szV m lo hi p = 31 := by
  unfold szV; rw [if_neg (by omega), if_neg (by omega), if_neg (by omega), if_pos h3]
theorem szV_ok {m : Mc} {lo hi p : Int} (h : 1 ≤ m.k) (h' : m.k ≤ 64) (h1 : lo ≤ m.o) (h1' : m.o ≤ hi) (h2 : 1 ≤ m.n) (h2' : m.n ≤ 1024) (h3 : (m.nx.length : Int) = m.n * m.k) (h4 : (m.out.length : Int) = m.n * p) : szV m lo hi p = 0 := by
  unfold szV; rw [if_neg (by omega), if_neg (by omega), if_neg (by omega), if_neg (by simp [h3, h4])]
/-- The sizes are right. -/
structure Sized (m : Mc) (lo hi p : Int) : Prop where
  k0 : 1 ≤ m.k
  k1 : m.k ≤ 64
  o0 : lo ≤ m.o
  o1 : m.o ≤ hi
  n0 : 1 ≤ m.n
  n1 : m.n ≤ 1024
  nx : (m.nx.length : Int) = m.n * m.k
  out : (m.out.length : Int) = m.n * p
theorem szV_cases (m : Mc) (lo hi p : Int) : (szV m lo hi p = 0 ∧ Sized m lo hi p) ∨ (szV m lo hi p ≠ 0 ∧ 0 ≤ szV m lo hi p ∧ szV m lo hi p ≤ 33) := by
  by_cases h : m.k < 1 ∨ 64 < m.k
  · exact .inr (by rw [szV_arg h]; decide)
  by_cases h1 : m.o < lo ∨ hi < m.o
  · exact .inr (by rw [szV_o (by omega) (by omega) h1]; decide)
  by_cases h2 : m.n < 1 ∨ 1024 < m.n
  · exact .inr (by rw [szV_n (by omega) (by omega) (by omega) (by omega) h2]; decide)
  by_cases h3 : (m.nx.length : Int) = m.n * m.k
  · by_cases h4 : (m.out.length : Int) = m.n * p
    · exact .inl ⟨szV_ok (by omega) (by omega) (by omega) (by omega) (by omega) (by omega) h3 h4, by omega, by omega, by omega, by omega, by omega, by omega, h3, h4⟩
    · exact .inr (by rw [szV_shape (by omega) (by omega) (by omega) (by omega) (by omega) (by omega) (.inr h4)]; decide)
  · exact .inr (by rw [szV_shape (by omega) (by omega) (by omega) (by omega) (by omega) (by omega) (.inl h3)]; decide)

end Go.Proofs.Ytdlcbjbcehpooaa
