/-
  Two words one behind the other, in plain words: where they lead, and what is said.
-/
import Derived.Test.YtdlcbjbcehpooaaRFrom
import Derived.Test.YtdlcbjbcehpooaaLentL
namespace Go.Proofs.Ytdlcbjbcehpooaa
open Go.RowKit

theorem goV_acc {m : Mc} (hk : m.kind = 2) : ∀ (w : List Int) (s : Int) (acc : List Int), goV m s w acc = ((goV m s w []).1, acc ++ (goV m s w []).2)
  | [], s, acc => by rw [goV_nil2 (by omega), goV_nil2 (by omega)]; simp
  | x :: w, s, acc => by
    simp only [goV, hk, if_true]
    rw [goV_acc hk w _ (acc ++ _), goV_acc hk w _ ([] ++ _)]
    simp
theorem goV_app2 {m : Mc} (hk : m.kind = 2) (w : List Int) : ∀ (v : List Int) (s : Int) (acc : List Int), goV m s (v ++ w) acc = goV m (goV m s v acc).1 w (goV m s v acc).2
  | [], s, acc => by rw [goV_nil2 (by omega)]; rfl
  | x :: v, s, acc => by
    simp only [goV, List.cons_append]
    exact goV_app2 hk w v _ _
theorem goV_app1 {m : Mc} (hk : m.kind ≠ 2) (w : List Int) : ∀ (v : List Int) (s : Int), goV m s (v ++ w) [] = goV m (goV m s v []).1 w []
  | [], s => rfl
  | x :: v, s => by
    simp only [goV, List.cons_append, hk, if_false]
    exact goV_app1 hk w v _
theorem goV_len2 {m : Mc} (hk : m.kind = 2) : ∀ (w : List Int) (s : Int) (acc : List Int), (goV m s w acc).2.length = acc.length + w.length
  | [], s, acc => by rw [goV_nil2 (by omega)]; rfl
  | x :: w, s, acc => by
    simp only [goV, hk, if_true]
    rw [goV_len2 hk w]
    simp; omega
theorem goV_len1 {m : Mc} (hk : m.kind = 1) : ∀ (w : List Int) (s : Int) (acc : List Int), (goV m s w acc).2.length = 1
  | [], s, acc => by rw [goV_nil1 hk]; rfl
  | x :: w, s, acc => by
    simp only [goV]
    exact goV_len1 hk w _ _
theorem goV_state {m : Mc} (R : Right m) : ∀ (w : List Int) (s : Int) (acc : List Int), 0 ≤ s → s < m.n → (∀ i, i < w.length → 0 ≤ w.getD i 0 ∧ w.getD i 0 < m.k) → 0 ≤ (goV m s w acc).1 ∧ (goV m s w acc).1 < m.n
  | [], s, acc, s0, s1, _ => by simp only [goV]; exact ⟨s0, s1⟩
  | x :: w, s, acc, s0, s1, hw => by
    have hx := hw 0 (by simp)
    obtain ⟨P, hP, hPl, _⟩ := way_of R s0 s1 (x := x) (by simpa using hx.1) (by simpa using hx.2)
    simp only [goV]
    rw [hP, Int.toNat_natCast]
    exact goV_state R w _ _ (R.st P hPl).1 (R.st P hPl).2 fun i hi => by
      have := hw (i + 1) (by simp; omega)
      simpa using this
theorem fromV_zero {m : Mc} {s : Int} {wd : List Int} (h : (fromV m s wd).2.2 = 0) : (mchV m).2 = 0 ∧ 0 ≤ s ∧ s < m.n ∧ (wchV wd m.k).2 = 0 := by
  unfold fromV at h
  by_cases h1 : (mchV m).2 ≠ 0
  · rw [if_pos h1] at h; exact absurd h h1
  rw [if_neg h1] at h
  by_cases h2 : s < 0 ∨ m.n ≤ s
  · rw [if_pos h2] at h; cases h
  rw [if_neg h2] at h
  by_cases h3 : (wchV wd m.k).2 ≠ 0
  · rw [if_pos h3] at h; exact absurd h h3
  exact ⟨by simpa using h1, by omega, by omega, by simpa using h3⟩
theorem fromV_err {m : Mc} {s : Int} {wd : List Int} (h : (fromV m s wd).2.2 ≠ 0) : (fromV m s wd).1 = 0 := by
  unfold fromV at h ⊢
  by_cases h1 : (mchV m).2 ≠ 0
  · rw [if_pos h1]
  rw [if_neg h1] at h ⊢
  by_cases h2 : s < 0 ∨ m.n ≤ s
  · rw [if_pos h2]
  rw [if_neg h2] at h ⊢
  by_cases h3 : (wchV wd m.k).2 ≠ 0
  · rw [if_pos h3]
  rw [if_neg h3] at h
  exact absurd rfl h
theorem wch_app {v w : List Int} {k : Int} (hv : (wchV v k).2 = 0) (hl : v.length + w.length ≤ 4096) : (wchV (v ++ w) k).2 = (wchV w k).2 := by
  obtain ⟨k0, k1, _, hd⟩ := word_of_chk hv
  have hlo : ∀ j, j < v.length → badB (fun i => (v ++ w).getD i 0) k j = false := fun j hj => bad_no (by rw [getD_app_left hj]; exact (hd j hj).1) (by rw [getD_app_left hj]; exact (hd j hj).2)
  have hhi : ∀ j, badB (fun i => (v ++ w).getD i 0) k (v.length + j) = badB (fun i => w.getD i 0) k j := fun j => by unfold badB; simp only [getD_app_right]
  have hall : ∀ n, (∀ j, j < n → badB (fun i => w.getD i 0) k j = false) → ∀ j, j < v.length + n → badB (fun i => (v ++ w).getD i 0) k j = false := fun n h j hj => by
    by_cases e : j < v.length
    · exact hlo j e
    · have := hhi (j - v.length)
      rw [show v.length + (j - v.length) = j by omega] at this
      rw [this]; exact h _ (by omega)
  unfold wchV
  rcases first_cases (badB (fun i => w.getD i 0) k) w.length with ⟨_, h⟩ | ⟨i, _, hi, hb, h⟩
  · rw [chkV_ok k0 k1 (by omega) h, chkV_ok k0 k1 (by simp; omega) (fun j hj => hall _ h j (by simpa using hj))]
  · rw [chkV_sym k0 k1 (by omega) hi hb h, chkV_sym (i := v.length + i) k0 k1 (by simp; omega) (by simp; omega) ((hhi i).trans hb) (hall i h)]

theorem goV_most (m : Mc) : ∀ (wd : List Int) (s : Int) (acc : List Int), (goV m s wd acc).2.length ≤ acc.length + wd.length + 1
  | [], s, acc => by
    unfold goV
    split <;> simp
  | x :: wd, s, acc => by
    unfold goV
    refine Nat.le_trans (goV_most m wd _ _) ?_
    split <;> simp only [List.length_append, List.length_cons, List.length_nil] <;> omega
theorem fromV_most (m : Mc) (s : Int) (wd : List Int) : (fromV m s wd).2.1.length ≤ wd.length + 1 := by
  unfold fromV
  split
  · simp
  · split
    · simp
    · split
      · simp
      · have := goV_most m wd s []
        simpa using this
theorem same_ne (x : Int) : (x != x) = false := by simp

/-- What P3.5 says. -/
theorem join_facts {m : Mc} {v w : List Int} {q : Int} {F : List Int} (hl : v.length + w.length ≤ 4096) (hA : fromV m 0 v = (q, F, 0)) :
    (fromV m q w).2.2 = (fromV m 0 (v ++ w)).2.2 ∧ ((fromV m q w).2.2 = 0 → (fromV m q w).1 = (fromV m 0 (v ++ w)).1 ∧
      (m.kind = 2 → (fromV m 0 (v ++ w)).2.1 = F ++ (fromV m q w).2.1 ∧ (fromV m 0 (v ++ w)).2.1.length = v.length + w.length) ∧
      (m.kind ≠ 2 → (fromV m 0 (v ++ w)).2.1 = (fromV m q w).2.1 ∧ (fromV m 0 (v ++ w)).2.1.length = 1)) := by
  obtain ⟨hz, _, n0, hv⟩ := fromV_zero (m := m) (s := 0) (wd := v) (by rw [hA])
  have R := right_of hz
  rw [fromV_ok hz (by omega) n0 hv] at hA
  have e1 : (goV m 0 v []).1 = q := congrArg Prod.fst hA
  have e2 : (goV m 0 v []).2 = F := congrArg (fun x => x.2.1) hA
  obtain ⟨_, _, _, hd⟩ := word_of_chk hv
  have hq := goV_state R v 0 [] (by omega) n0 hd
  rw [e1] at hq
  have ha := wch_app hv hl
  by_cases hw : (wchV w m.k).2 = 0
  · rw [fromV_ok hz hq.1 hq.2 hw, fromV_ok hz (by omega) n0 (ha.trans hw)]
    refine ⟨rfl, fun _ => ?_⟩
    rcases R.kd with hk | hk
    · have h1 := goV_app1 (by omega) w v 0 (m := m)
      rw [e1] at h1
      refine ⟨by rw [h1], fun h => by omega, fun _ => ⟨by rw [h1], goV_len1 hk _ _ _⟩⟩
    · have h2 := goV_app2 hk w v 0 []
      rw [e1, e2, goV_acc hk w q F] at h2
      refine ⟨by rw [h2], fun _ => ⟨by rw [h2], ?_⟩, fun h => absurd hk h⟩
      show (goV m 0 (v ++ w) []).2.length = _
      rw [goV_len2 hk]; simp
  · rw [fromV_word hz hq.1 hq.2 hw, fromV_word hz (by omega) n0 (by rw [ha]; exact hw)]
    exact ⟨ha.symm, fun h => absurd h hw⟩

end Go.Proofs.Ytdlcbjbcehpooaa
