/-
  Pairs of states of two machines that are gone through together, in plain words.
-/
import Derived.Test.YtoiogggibfmncaaK8
import Derived.Test.YtoiogggibfmncaaK2
namespace Go.Proofs.Ytoiogggibfmncaa
open Go.RowKit

/-- The number of a pair, and of the pair to which x leads. -/
def cdP (o : Mc) (s t : Int) : Int := s * o.n + t
def nxP (m o : Mc) (p x : Int) : Int := cdP o (nxt m (p / o.n) x) (nxt o (p % o.n) x)
/-- The same is said in a pair. -/
def saP (m o : Mc) (p : Int) : Prop := rowO o (p % o.n) (pp o) = rowO m (p / o.n) (pp m)
theorem cd_div {o : Mc} {s t : Int} (t0 : 0 ≤ t) (t1 : t < o.n) : cdP o s t / o.n = s ∧ cdP o s t % o.n = t := by
  unfold cdP
  constructor
  · rw [Int.add_comm, Int.add_mul_ediv_right _ _ (by omega), Int.ediv_eq_zero_of_lt t0 t1]; omega
  · rw [Int.add_comm, Int.add_mul_emod_self_right, Int.emod_eq_of_lt t0 t1]
/-- A pair's two states. -/
theorem pr_of {m o : Mc} (o0 : 1 ≤ o.n) {p : Int} (p0 : 0 ≤ p) (p1 : p < m.n * o.n) : (0 ≤ p / o.n ∧ p / o.n < m.n) ∧ 0 ≤ p % o.n ∧ p % o.n < o.n :=
  ⟨⟨Int.ediv_nonneg p0 (by omega), (Int.ediv_lt_iff_lt_mul (by omega)).2 p1⟩, Int.emod_nonneg _ (by omega), Int.emod_lt_of_pos _ (by omega)⟩
theorem cd_rng {m o : Mc} {s t : Int} (s0 : 0 ≤ s) (s1 : s < m.n) (t0 : 0 ≤ t) (t1 : t < o.n) : 0 ≤ cdP o s t ∧ cdP o s t < m.n * o.n := by
  unfold cdP
  have h1 : 0 ≤ s * o.n := Int.mul_nonneg s0 (by omega)
  have h2 : (s + 1) * o.n ≤ m.n * o.n := Int.mul_le_mul_of_nonneg_right (by omega) (by omega)
  rw [Int.add_mul, Int.one_mul] at h2
  omega

/-- What holds when i pairs are done, and of the next one x symbols. -/
structure PInv (m o : Mc) (S : List Int) (i x : Nat) : Prop where
  nd : S.Nodup
  z : (0 : Int) ∈ S
  rng : ∀ p ∈ S, 0 ≤ p ∧ p < m.n * o.n
  lead : ∀ p ∈ S, ∃ u : List Int, (∀ y ∈ u, 0 ≤ y ∧ y < m.k) ∧ p = cdP o (ends m 0 u) (ends o 0 u)
  done : ∀ q, q < i → q < S.length → saP m o (S.getD q 0) ∧ ∀ y : Nat, (y : Int) < m.k → nxP m o (S.getD q 0) y ∈ S
  cur : ∀ y : Nat, y < x → (y : Int) < m.k ∧ nxP m o (S.getD i 0) y ∈ S
theorem PInv.start (m o : Mc) (m0 : 1 ≤ m.n) (o0 : 1 ≤ o.n) : PInv m o [0] 0 0 := by
  refine ⟨by simp, by simp, fun p hp => ?_, fun p hp => ⟨[], by simp, ?_⟩, fun q hq => by omega, fun y hy => by omega⟩
  · rw [List.mem_singleton] at hp; subst hp
    have : 1 * 1 ≤ m.n * o.n := Int.mul_le_mul m0 o0 (by omega) (by omega)
    omega
  · rw [List.mem_singleton] at hp; subst hp
    show (0 : Int) = 0 * o.n + 0
    omega
theorem PInv.len {m o : Mc} {S : List Int} {i x : Nat} (h : PInv m o S i x) : (S.length : Int) ≤ m.n * o.n := by
  have h1 := h.rng 0 h.z
  have h2 := nodup_le (m.n * o.n).toNat S h.nd fun a ha => by have := h.rng a ha; omega
  omega
theorem PInv.old {m o : Mc} {S : List Int} {i x : Nat} (h : PInv m o S i x) (hx : (x : Int) < m.k) (hm : nxP m o (S.getD i 0) x ∈ S) : PInv m o S i (x + 1) :=
  ⟨h.nd, h.z, h.rng, h.lead, h.done, fun y hy => by
    by_cases e : y = x
    · subst e; exact ⟨hx, hm⟩
    · exact h.cur y (by omega)⟩
theorem PInv.new {m o : Mc} {S : List Int} {i x : Nat} (R : Right m) (Q : Right o) (hk : o.k = m.k) (h : PInv m o S i x) (hi : i < S.length) (hx : (x : Int) < m.k) (hm : ¬ nxP m o (S.getD i 0) x ∈ S) : PInv m o (S ++ [nxP m o (S.getD i 0) x]) i (x + 1) := by
  have hiS := gd_mem (l := S) hi
  have hr := h.rng _ hiS
  obtain ⟨⟨a0, a1⟩, c0, c1⟩ := pr_of Q.n0 hr.1 hr.2
  have s1 := nxt_range R a0 a1 hx
  have t1 := nxt_range Q c0 c1 (x := x) (by rw [hk]; exact hx)
  have hnr := cd_rng (m := m) (o := o) s1.1 s1.2 t1.1 t1.2
  have hkeep : ∀ q, q < S.length → (S ++ [nxP m o (S.getD i 0) x]).getD q 0 = S.getD q 0 := fun q hq => gd_left 0 hq
  refine ⟨?_, List.mem_append_left _ h.z, fun p hp => ?_, fun p hp => ?_, fun q hq hl => ?_, fun y hy => ?_⟩
  · rw [List.nodup_append]
    refine ⟨h.nd, by simp, fun a ha b hb e => ?_⟩
    rw [List.mem_singleton] at hb
    subst hb; subst e
    exact hm ha
  · rcases List.mem_append.1 hp with hp | hp
    · exact h.rng p hp
    · rw [List.mem_singleton] at hp; rw [hp]; exact hnr
  · rcases List.mem_append.1 hp with hp | hp
    · exact h.lead p hp
    · rw [List.mem_singleton] at hp
      obtain ⟨u, hu, e⟩ := h.lead _ hiS
      have hz : (0 : Int) ≤ 0 := by omega
      have q0 := Q.n0
      have rt := ends_range Q u (s := 0) (by omega) (by omega) (by rw [hk]; exact hu)
      obtain ⟨d1, d2⟩ := cd_div (o := o) (s := ends m 0 u) rt.1 rt.2
      rw [← e] at d1 d2
      refine ⟨u ++ [(x : Int)], fun y hy => ?_, ?_⟩
      · rcases List.mem_append.1 hy with hy | hy
        · exact hu y hy
        · rw [List.mem_singleton] at hy; subst hy; omega
      · rw [hp, ends_snoc, ends_snoc]
        unfold nxP
        rw [d1, d2]
  · have hq' : q < S.length := by omega
    rw [hkeep q hq']
    obtain ⟨h1, h2⟩ := h.done q hq hq'
    exact ⟨h1, fun y hy => List.mem_append_left _ (h2 y hy)⟩
  · rw [hkeep i hi]
    by_cases e : y = x
    · subst e; exact ⟨hx, List.mem_append_right _ (by simp)⟩
    · have := h.cur y (by omega)
      exact ⟨this.1, List.mem_append_left _ this.2⟩
theorem PInv.row {m o : Mc} {S : List Int} {i x : Nat} (h : PInv m o S i x) (hx : (x : Int) = m.k) (hs : saP m o (S.getD i 0)) : PInv m o S (i + 1) 0 :=
  ⟨h.nd, h.z, h.rng, h.lead, fun q hq hl => by
    by_cases e : q = i
    · subst e; exact ⟨hs, fun y hy => (h.cur y (by omega)).2⟩
    · exact h.done q (by omega) hl, fun y hy => by omega⟩
/-- All pairs are done: the machines say the same. -/
theorem PInv.same {m o : Mc} {S : List Int} {i : Nat} (R : Right m) (Q : Right o) (hkd : o.kind = m.kind) (hk : o.k = m.k) (h : PInv m o S i 0) (hi : ¬ i < S.length) : Same2 m 0 o 0 := by
  refine pair_same hkd hk R.kd R.k0 (T := fun s t => (0 ≤ s ∧ s < m.n) ∧ (0 ≤ t ∧ t < o.n) ∧ cdP o s t ∈ S) ?_ fun s t hT => ?_
  · have := R.n0
    have := Q.n0
    refine ⟨⟨by omega, by omega⟩, ⟨by omega, by omega⟩, ?_⟩
    have e : cdP o 0 0 = 0 := by unfold cdP; omega
    rw [e]; exact h.z
  · obtain ⟨⟨s0, s1⟩, ⟨t0, t1⟩, hm⟩ := hT
    obtain ⟨q, hq, e⟩ := mem_gd hm
    obtain ⟨h1, h2⟩ := h.done q (by omega) hq
    rw [e] at h1 h2
    obtain ⟨d1, d2⟩ := cd_div (o := o) (s := s) t0 t1
    unfold saP at h1
    rw [d1, d2] at h1
    refine ⟨h1, fun x hx => ?_⟩
    have h3 := h2 x hx
    unfold nxP at h3
    rw [d1, d2] at h3
    exact ⟨nxt_range R s0 s1 hx, nxt_range Q t0 t1 (by rw [hk]; exact hx), h3⟩
/-- A pair that says otherwise: a word tells the machines apart. -/
theorem PInv.apart {m o : Mc} {S : List Int} {i x : Nat} (R : Right m) (Q : Right o) (hkd : o.kind = m.kind) (hk : o.k = m.k) (h : PInv m o S i x) (hi : i < S.length) (hs : ¬ saP m o (S.getD i 0)) : ¬ Same2 m 0 o 0 := by
  obtain ⟨u, hu, e⟩ := h.lead _ (gd_mem hi)
  have q0 := Q.n0
  have rt := ends_range Q u (s := 0) (by omega) (by omega) (by rw [hk]; exact hu)
  obtain ⟨d1, d2⟩ := cd_div (o := o) (s := ends m 0 u) rt.1 rt.2
  rw [← e] at d1 d2
  refine pair_apart hkd hk R.kd R.k0 hu ?_
  rw [← d1, ← d2]
  exact hs
/-- What is said in a pair, number by number. -/
theorem sa_iff {m o : Mc} (hkd : o.kind = m.kind) (hk : o.k = m.k) {p : Int} : saP m o p ↔ ∀ i, i < pp m → (rowO o (p % o.n) (pp o)).getD i 0 = (rowO m (p / o.n) (pp m)).getD i 0 := by
  have hp : pp o = pp m := by unfold pp; rw [hkd, hk]
  unfold saP
  constructor
  · intro h i _; rw [h]
  · intro h
    refine List.ext_getElem? fun i => ?_
    by_cases c : i < pp m
    · have h1 := h i c
      simp only [List.getD] at h1
      rw [List.getElem?_eq_getElem (by rw [rowO_len, hp]; exact c), List.getElem?_eq_getElem (by rw [rowO_len]; exact c)] at h1 ⊢
      simpa using h1
    · rw [List.getElem?_eq_none (by rw [rowO_len, hp]; omega), List.getElem?_eq_none (by rw [rowO_len]; omega)]

end Go.Proofs.Ytoiogggibfmncaa
