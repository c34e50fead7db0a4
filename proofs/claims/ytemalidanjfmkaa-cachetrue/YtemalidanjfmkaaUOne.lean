/-
  A cache that is filled with what one machine says: nothing clashes, there is room, and what is told is what the machine says.
-/
import Derived.Test.YtemalidanjfmkaaUBeg
import Derived.Test.YtemalidanjfmkaaUWch
import Derived.Test.YtemalidanjfmkaaK6
namespace Go.Proofs.Ytemalidanjfmkaa
open Go.RowKit

theorem mch_o {m : Mc} (h : (mchV m).2 = 0) : (m.kind = 1 → m.o = 2) ∧ 1 ≤ m.o ∧ m.o ≤ 64 := by
  unfold mchV at h
  by_cases hk : m.kind = 1
  · rw [if_pos hk] at h
    rcases szV_cases m 2 2 1 with ⟨_, s⟩ | ⟨hz, _, _⟩
    · have := s.o0; have := s.o1
      exact ⟨fun _ => by omega, by omega, by omega⟩
    · rw [if_neg hz] at h; exact absurd h hz
  · rw [if_neg hk] at h
    by_cases hk2 : m.kind = 2
    · rw [if_pos hk2] at h
      rcases szV_cases m 1 64 m.k with ⟨_, s⟩ | ⟨hz, _, _⟩
      · exact ⟨fun h => absurd h hk, s.o0, s.o1⟩
      · rw [if_neg hz] at h; exact absurd h hz
    · rw [if_neg hk2] at h; cases h
theorem sd_in {m : Mc} (R : Right m) : ∀ (w : List Int) (s : Int) (acc : List Int), 0 ≤ s → s < m.n → Wrd m.k w → (∀ x ∈ acc, 0 ≤ x ∧ x < m.o) → ∀ x ∈ (goV m s w acc).2, 0 ≤ x ∧ x < m.o
  | [], s, acc, s0, s1, _, ha => by
    intro x hx
    rcases R.kd with k | k
    · rw [goV_nil1 k, List.mem_singleton] at hx
      subst hx
      exact R.so _ (by have := R.outD k; omega)
    · rw [goV_nil2 (by omega)] at hx; exact ha x hx
  | y :: w, s, acc, s0, s1, hw, ha => by
    have hy := hw y (by simp)
    have hw' : Wrd m.k w := fun z hz => hw z (by simp [hz])
    obtain ⟨P, hP, hl, -⟩ := way_of R s0 s1 hy.1 hy.2
    obtain ⟨t0, t1⟩ := R.st P hl
    rcases R.kd with k | k
    · rw [goV_cons1 (by omega) hP]; exact sd_in R w _ acc t0 t1 hw' ha
    · rw [goV_cons2 k hP]
      refine sd_in R w _ _ t0 t1 hw' fun x hx => ?_
      rcases List.mem_append.1 hx with hx | hx
      · exact ha x hx
      · rw [List.mem_singleton] at hx; subst hx
        exact R.so P (by have := R.outM k; have := R.nx; omega)
theorem sd_inB {b : Int} {l : List Int} (h : ∀ x ∈ l, 0 ≤ x ∧ x < b) : inB b l = true := by
  unfold inB
  rw [List.all_eq_true]
  intro x hx
  exact decide_eq_true (h x hx)
/-- What a Mealy says of a beginning is the beginning of what it says. -/
theorem sd_take {m : Mc} (hk : m.kind = 2) (w : List Int) (i : Nat) (hi : i ≤ w.length) : (goV m 0 (w.take i) []).2 = (goV m 0 w []).2.take i := by
  have e := goV_app2 hk (w.drop i) (w.take i) 0 []
  rw [List.take_append_drop, goV_acc hk (w.drop i) _ (goV m 0 (w.take i) []).2] at e
  have e2 := congrArg Prod.snd e
  have hl := goV_len2 hk (w.take i) 0 []
  rw [List.length_nil, Nat.zero_add, List.length_take, Nat.min_eq_left hi] at hl
  rw [e2]
  show _ = List.take i ((goV m 0 (w.take i) []).2 ++ _)
  rw [List.take_append_of_le_length (by omega)]
  exact (List.take_of_length_le (by omega)).symm
theorem wrd_take {k : Int} {w : List Int} (h : Wrd k w) (i : Nat) : Wrd k (w.take i) := fun x hx => h x (List.mem_of_mem_take hx)

structure Tru (m : Mc) (c : Cs) : Prop where
  kd : c.kind = m.kind
  k : c.k = m.k
  o : c.o = m.o
  mo : c.most = 5000
  h0 : c.hits = 0
  m0 : c.miss = 0
  wl : c.ws.length = c.os.length
  tr : ∀ u y, findV c u = some y → Wrd m.k u ∧ u.length ≤ 4096 ∧ y = (goV m 0 u []).2

theorem tru_newE {m : Mc} (h : (mchV m).2 = 0) : newE m.kind m.k m.o 5000 = 0 := by
  have R := right_of h
  obtain ⟨o1, o2, o3⟩ := mch_o h
  have k0 := R.k0
  have k1 := R.k1
  unfold newE
  have hn : ¬ ((m.kind = 1 ∧ m.o ≠ 2) ∨ m.o < 1 ∨ 64 < m.o) := by
    rintro (⟨q, r⟩ | q | q)
    · exact r (o1 q)
    · omega
    · omega
  rw [if_neg (by rcases R.kd with q | q <;> omega), if_neg (by omega), if_neg hn, if_neg (by omega)]
theorem Tru.new (m : Mc) : Tru m (newV m.kind m.k m.o 5000) := by
  refine ⟨rfl, rfl, rfl, rfl, rfl, rfl, rfl, fun u y hu => ?_⟩
  unfold findV at hu
  split at hu
  · rename_i q
    have hk : m.kind = 2 := q.1
    obtain rfl : u = [] := List.length_eq_zero_iff.1 q.2
    cases hu
    exact ⟨fun x hx => absurd hx (by simp), Nat.zero_le _, by rw [goV_nil2 (by omega)]⟩
  · cases hu
theorem Tru.get {m : Mc} {c : Cs} (T : Tru m c) {u y : List Int} (h : findV c u = some y) : y = (goV m 0 u []).2 := (T.tr u y h).2.2
theorem frs_most (w : List Int) : ∀ (n : Nat) (f : List (List Int)), (frs w n f).length ≤ f.length + n
  | 0, f => by simp [frs]
  | n + 1, f => by
    have ih := frs_most w n f
    show (if w.take n ∈ frs w n f then frs w n f else frs w n f ++ [w.take n]).length ≤ _
    split
    · omega
    · rw [List.length_append]; simp only [List.length_cons, List.length_nil]; omega
theorem Tru.put {m : Mc} {c : Cs} (h : (mchV m).2 = 0) (T : Tru m c) {w : List Int} (hw : (wchV w m.k).2 = 0) (hl : w.length ≤ 60) (hb : c.bg.length ≤ 4000) :
    (putV c w (goV m 0 w []).2).2 = 0 ∧ Tru m (putV c w (goV m 0 w []).2).1 ∧ (putV c w (goV m 0 w []).2).1.bg.length ≤ c.bg.length + 61 := by
  have R := right_of h
  obtain ⟨o1, o2, o3⟩ := mch_o h
  have hW : Wrd m.k w := (wch_iff R.k0 R.k1 (by omega)).1 hw
  have hin := sd_in R w 0 [] (Int.le_refl _) (by have := R.n0; omega) hW (fun x hx => absurd hx (by simp))
  have e1 : wdE w c.k = 0 := by rw [T.k]; exact hw
  have e2 : chkA ⟨1, w, ⟨c.kind, c.k, c.o, 0, [], []⟩⟩ ⟨1, (goV m 0 w []).2, []⟩ = 0 := by
    unfold chkA
    rw [if_neg (by simp), if_neg (by simp), if_pos]
    refine ⟨rfl, rfl, ?_⟩
    rcases R.kd with q | q
    · exact .inl ⟨T.kd.trans q, goV_len1 q w 0 [], sd_inB (by rw [← o1 q]; exact hin)⟩
    · exact .inr ⟨T.kd.trans q, by have := goV_len2 q w 0 []; simpa using this, sd_inB (by show ∀ x ∈ _, 0 ≤ x ∧ x < c.o; rw [T.o]; exact hin)⟩
  have e3 : clsV c w (goV m 0 w []).2 = false := by
    unfold clsV
    rw [List.any_eq_false]
    intro i hi
    have hi' : i ≤ w.length := by have := List.mem_range.1 hi; omega
    unfold clsA
    split
    · rename_i y hy
      have ey := T.get hy
      rcases R.kd with q | q
      · have hk : c.kind = 1 := T.kd.trans q
        by_cases z : i = w.length
        · rw [z, List.take_length] at ey
          simp [hk, ey]
        · simp [hk, z]
      · have hk : c.kind = 2 := T.kd.trans q
        rw [sd_take q w i hi'] at ey
        simp [hk, ey]
    · simp
  have hfl := frs_most w (w.length + 1) c.bg
  have e4 : ¬ c.most < ((frsV c w).length : Int) := by
    rw [T.mo]; unfold frsV; omega
  have hp : putV c w (goV m 0 w []).2 = ({ c with ws := c.ws ++ [w], os := c.os ++ [(goV m 0 w []).2], bg := frsV c w }, 0) := by
    unfold putV
    rw [if_neg (by rw [e1]; simp), if_neg (by rw [e2]; simp), if_neg (by rw [e3]; simp), if_neg e4]
  rw [hp]
  refine ⟨rfl, ⟨T.kd, T.k, T.o, T.mo, T.h0, T.m0, by show (c.ws ++ [w]).length = (c.os ++ [_]).length; rw [List.length_append, List.length_append, T.wl]; rfl, fun u y hu => ?_⟩, by show (frsV c w).length ≤ _; unfold frsV; omega⟩
  unfold findV at hu
  by_cases z : c.kind = 2 ∧ u.length = 0
  · rw [if_pos z] at hu
    exact T.tr u y (by unfold findV; rw [if_pos z]; exact hu)
  · rw [if_neg z] at hu
    have hu' : fndL c.kind u (c.ws ++ [w]) (c.os ++ [(goV m 0 w []).2]) = some y := hu
    rw [fndL_app c.kind u _ _ _ _ T.wl] at hu'
    cases hf : fndL c.kind u c.ws c.os with
    | some y' =>
      rw [hf] at hu'
      have : y' = y := by simpa using hu'
      subst this
      exact T.tr u y' (by unfold findV; rw [if_neg z]; exact hf)
    | none =>
      rw [hf] at hu'
      have hu2 : fndL c.kind u [w] [(goV m 0 w []).2] = some y := by simpa using hu'
      rw [fndL] at hu2
      split at hu2
      · rename_i q
        cases hu2
        rw [← q.2]
        exact ⟨hW, by omega, rfl⟩
      · split at hu2
        · rename_i q
          cases hu2
          have hk : m.kind = 2 := T.kd.symm.trans q.1
          have hbg := q.2
          unfold begV at hbg
          have hbg' := of_decide_eq_true hbg
          have ht := sd_take hk w u.length hbg'.1
          rw [hbg'.2] at ht
          refine ⟨by rw [← hbg'.2]; exact wrd_take hW _, by omega, ht.symm⟩
        · cases hu2
end Go.Proofs.Ytemalidanjfmkaa
