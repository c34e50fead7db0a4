/-
  What a teacher answers may be answered, and is true. Plain words.
-/
import Derived.Test.YtagoilabphmdfaaETell
import Derived.Test.YtagoilabphmdfaaEChk
import Derived.Test.YtagoilabphmdfaaUWch
import Derived.Test.YtagoilabphmdfaaK16
import Derived.Test.YtagoilabphmdfaaK6
namespace Go.Proofs.Ytagoilabphmdfaa

theorem dfa_o {m : Mc} (h : (mchV m).2 = 0) (hk : m.kind = 1) : m.o = 2 := by
  unfold mchV at h
  rw [if_pos hk] at h
  rcases szV_cases m 2 2 1 with ⟨hz, s⟩ | ⟨hz, _, _⟩
  · have := s.o0; have := s.o1; omega
  · rw [if_neg hz] at h; exact absurd h hz
theorem said_in {m : Mc} (R : Right m) : ∀ (w : List Int) (s : Int) (acc : List Int), 0 ≤ s → s < m.n → Wrd m.k w → (∀ x ∈ acc, 0 ≤ x ∧ x < m.o) → ∀ x ∈ (goV m s w acc).2, 0 ≤ x ∧ x < m.o
  | [], s, acc, s0, s1, _, ha => by
    intro x hx
    rcases R.kd with k | k
    · rw [goV_nil1 k, List.mem_singleton] at hx
      subst hx
      exact R.so _ (by have := R.outD k; omega)
    · rw [goV_nil2 (by omega)] at hx; exact ha x hx
  | y :: w, s, acc, s0, s1, hw, ha => by
    have hy := hw y (by simp)
    have hw' : Wrd m.k w := fun z hz => hw z (by simp [hz])
    obtain ⟨P, hP, hl, -⟩ := way_of R s0 s1 hy.1 hy.2
    obtain ⟨t0, t1⟩ := R.st P hl
    rcases R.kd with k | k
    · rw [goV_cons1 (by omega) hP]; exact said_in R w _ acc t0 t1 hw' ha
    · rw [goV_cons2 k hP]
      refine said_in R w _ _ t0 t1 hw' fun x hx => ?_
      rcases List.mem_append.1 hx with hx | hx
      · exact ha x hx
      · rw [List.mem_singleton] at hx; subst hx
        exact R.so P (by have := R.outM k; have := R.nx; omega)
theorem inB_of {b : Int} {l : List Int} (h : ∀ x ∈ l, 0 ≤ x ∧ x < b) : inB b l = true := by
  unfold inB
  rw [List.all_eq_true]
  intro x hx
  exact decide_eq_true (h x hx)
/-- Of Member. -/
theorem tell_said {o : Option (List Int)} {m : Mc} {q : Qy} (h : (tellV o m q).2 = 0) (k : q.kind = 1) (hk : q.hyp.kind = m.kind) (ho : q.hyp.o = m.o) : chkA q (tellV o m q).1 = 0 := by
  unfold tellV at h ⊢
  by_cases e : (mchV m).2 ≠ 0
  · rw [if_pos e] at h; exact absurd h e
  rw [if_neg e, if_pos k] at h ⊢
  by_cases e2 : (fromV m 0 q.word).2.2 ≠ 0
  · rw [if_pos e2] at h; exact absurd h e2
  rw [if_neg e2] at h ⊢
  have e' : (mchV m).2 = 0 := by simpa using e
  have R := right_of e'
  have hw : (wchV q.word m.k).2 = 0 := by
    refine Classical.byContradiction fun c => ?_
    rw [run_bad e' c] at e2
    exact e2 c
  rw [run_word e' hw]
  obtain ⟨_, _, hl, hd⟩ := word_of_chk hw
  have hW : Wrd m.k q.word := fun x hx => by obtain ⟨p, hp, rfl⟩ := mem_gd hx; exact hd p hp
  have hin := said_in R q.word 0 [] (Int.le_refl _) (by have := R.n0; omega) hW (fun x hx => by cases hx)
  unfold chkA
  rw [if_neg (by omega), if_neg (by omega), if_pos]
  refine ⟨rfl, rfl, ?_⟩
  rcases R.kd with kd | kd
  · left
    refine ⟨by omega, goV_len1 kd _ _ _, inB_of fun x hx => ?_⟩
    have := hin x hx
    rw [dfa_o e' kd] at this
    exact this
  · right
    refine ⟨by omega, by rw [goV_len2 kd]; simp, ?_⟩
    rw [ho]
    exact inB_of hin
/-- Of Hypo. -/
theorem tell_hypo {o : Option (List Int)} {m : Mc} {q : Qy} (h : (tellV o m q).2 = 0) (k : q.kind = 2) (hS : SeR m q.hyp o) (hn : m.n ≤ 60) (hn' : q.hyp.n ≤ 60) :
    chkA q (tellV o m q).1 = 0 ∧ (o.isSome = true → (tellV o m q).1 = ⟨3, [], o.getD []⟩ ∧ (fromV m 0 (o.getD [])).2.1 ≠ (fromV q.hyp 0 (o.getD [])).2.1) ∧ (o.isSome = false → (tellV o m q).1 = ⟨2, [], []⟩) := by
  unfold tellV at h ⊢
  by_cases e : (mchV m).2 ≠ 0
  · rw [if_pos e] at h; exact absurd h e
  rw [if_neg e, if_neg (by omega), if_neg (by simp [k])] at h ⊢
  by_cases e2 : seE m q.hyp ≠ 0
  · rw [if_pos e2] at h; exact absurd h e2
  rw [if_neg e2] at h ⊢
  have e2' : seE m q.hyp = 0 := by simpa using e2
  obtain ⟨z1, z2, kd, kk, oo⟩ := seE_zero e2'
  have R := right_of z1
  have Q := right_of z2
  cases o with
  | none =>
    refine ⟨?_, fun c => (by cases c), fun _ => rfl⟩
    unfold chkA
    rw [if_neg (by omega), if_pos k, if_pos]
    exact ⟨rfl, .inl ⟨rfl, rfl⟩⟩
  | some v =>
    have hF : IsF m q.hyp 0 0 v := hS.1 e2'
    have hlen := sep_two R Q kd.symm kk.symm oo.symm (by omega) (Int.le_refl 0) (by have := R.n0; omega) (Int.le_refl 0) (by have := Q.n0; omega) hF
    have hl : v.length ≤ 4096 := by omega
    have w1 := (wch_iff R.k0 R.k1 hl).2 hF.wd
    have w2 : (wchV v q.hyp.k).2 = 0 := by rw [← kk]; exact w1
    refine ⟨?_, fun _ => ⟨rfl, ?_⟩, fun c => (by cases c)⟩
    · unfold chkA
      rw [if_neg (by omega), if_pos k, if_pos]
      exact ⟨rfl, .inr ⟨rfl, w2⟩⟩
    · show (fromV m 0 v).2.1 ≠ (fromV q.hyp 0 v).2.1
      rw [run_word z1 w1, run_word z2 w2]
      exact hF.tl

end Go.Proofs.Ytagoilabphmdfaa
