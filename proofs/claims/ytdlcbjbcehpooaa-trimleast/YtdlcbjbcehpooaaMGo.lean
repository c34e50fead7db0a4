/-
  Where a word leads in a machine and what is said on the way, in plain words; which machines are right.
-/
import Derived.Test.YtdlcbjbcehpooaaMSpec
namespace Go.Proofs.Ytdlcbjbcehpooaa
open Go.RowKit

/-- Where w leads from s, and what is said, behind acc. -/
def goV (m : Mc) : Int → List Int → List Int → Int × List Int
  | s, [], acc => (s, if m.kind = 1 then [m.out.getD s.toNat 0] else acc)
  | s, x :: w, acc => goV m (m.nx.getD (s * m.k + x).toNat 0) w (if m.kind = 2 then acc ++ [m.out.getD (s * m.k + x).toNat 0] else acc)
theorem goV_nil1 {m : Mc} {s : Int} {acc : List Int} (h : m.kind = 1) : goV m s [] acc = (s, [m.out.getD s.toNat 0]) := by simp [goV, h]
theorem goV_nil2 {m : Mc} {s : Int} {acc : List Int} (h : m.kind ≠ 1) : goV m s [] acc = (s, acc) := by simp [goV, h]
theorem goV_cons1 {m : Mc} {s x : Int} {w acc : List Int} {P : Nat} (h : m.kind ≠ 2) (hP : s * m.k + x = (P : Int)) : goV m s (x :: w) acc = goV m (m.nx.getD P 0) w acc := by simp [goV, h, hP]
theorem goV_cons2 {m : Mc} {s x : Int} {w acc : List Int} {P : Nat} (h : m.kind = 2) (hP : s * m.k + x = (P : Int)) : goV m s (x :: w) acc = goV m (m.nx.getD P 0) w (acc ++ [m.out.getD P 0]) := by simp [goV, h, hP]

/-- A machine that Check finds nothing wrong with. -/
structure Right (m : Mc) : Prop where
  kd : m.kind = 1 ∨ m.kind = 2
  k0 : 1 ≤ m.k
  k1 : m.k ≤ 64
  n0 : 1 ≤ m.n
  n1 : m.n ≤ 1024
  nx : (m.nx.length : Int) = m.n * m.k
  outD : m.kind = 1 → (m.out.length : Int) = m.n
  outM : m.kind = 2 → (m.out.length : Int) = m.n * m.k
  st : ∀ j, j < m.nx.length → 0 ≤ m.nx.getD j 0 ∧ m.nx.getD j 0 < m.n
  so : ∀ j, j < m.out.length → 0 ≤ m.out.getD j 0 ∧ m.out.getD j 0 < m.o
theorem enV_right {m : Mc} (h : (enV m).2 = 0) : (∀ j, j < m.nx.length → 0 ≤ m.nx.getD j 0 ∧ m.nx.getD j 0 < m.n) ∧ ∀ j, j < m.out.length → 0 ≤ m.out.getD j 0 ∧ m.out.getD j 0 < m.o := by
  rcases bdAt_cases m.nx m.n with ⟨e, h1⟩ | ⟨i, e, _⟩
  · rcases bdAt_cases m.out m.o with ⟨e', h2⟩ | ⟨i, e', _⟩
    · exact ⟨h1, h2⟩
    · rw [enV_out e e'] at h; cases h
  · rw [enV_state e] at h; cases h
theorem right_of {m : Mc} (h : (mchV m).2 = 0) : Right m := by
  unfold mchV at h
  by_cases hk : m.kind = 1
  · rw [if_pos hk] at h
    rcases szV_cases m 2 2 1 with ⟨hz, s⟩ | ⟨hz, _, _⟩
    · rw [if_pos hz] at h
      obtain ⟨e1, e2⟩ := enV_right h
      exact ⟨.inl hk, s.k0, s.k1, s.n0, s.n1, s.nx, fun _ => by rw [s.out, Int.mul_one], fun h2 => by omega, e1, e2⟩
    · rw [if_neg hz] at h; exact absurd h hz
  · rw [if_neg hk] at h
    by_cases hk2 : m.kind = 2
    · rw [if_pos hk2] at h
      rcases szV_cases m 1 64 m.k with ⟨hz, s⟩ | ⟨hz, _, _⟩
      · rw [if_pos hz] at h
        obtain ⟨e1, e2⟩ := enV_right h
        exact ⟨.inr hk2, s.k0, s.k1, s.n0, s.n1, s.nx, fun h => absurd h hk, fun _ => s.out, e1, e2⟩
      · rw [if_neg hz] at h; exact absurd h hz
    · rw [if_neg hk2] at h; cases h
/-- The way from s by x: its place in the lists. -/
theorem way_of {m : Mc} (R : Right m) {s x : Int} (s0 : 0 ≤ s) (s1 : s < m.n) (x0 : 0 ≤ x) (x1 : x < m.k) : ∃ P : Nat, s * m.k + x = (P : Int) ∧ P < m.nx.length ∧ 0 ≤ s * m.k ∧ s * m.k ≤ 65536 ∧ P ≤ 65536 := by
  have k0 := R.k0
  have h0 : 0 ≤ s * m.k := Int.mul_nonneg s0 (by omega)
  have h1 : (s + 1) * m.k ≤ m.n * m.k := Int.mul_le_mul_of_nonneg_right (by omega) (by omega)
  have h2 : (s + 1) * m.k = s * m.k + m.k := by rw [Int.add_mul, Int.one_mul]
  have h3 := R.nx
  have h4 : m.n * m.k ≤ 1024 * 64 := Int.mul_le_mul R.n1 R.k1 (by omega) (by have := R.n0; omega)
  refine ⟨(s * m.k + x).toNat, by omega, by omega, h0, by omega, by omega⟩

end Go.Proofs.Ytdlcbjbcehpooaa
