/-
  The marks in the order of their first pairs are the words as the document lists them: in plain words.
-/
import Derived.Test.YtknefgdcnacfoaaUSivL
import Derived.Test.YtknefgdcnacfoaaK18
namespace Go.Proofs.Ytknefgdcnacfoaa

def PltB (s t : Nat) (k : List Int × Nat × Nat) : Bool := decide (k.2.1 < s ∨ (k.2.1 = s ∧ k.2.2 < t))
def PeqB (s t : Nat) (k : List Int × Nat × Nat) : Bool := decide (k.2.1 = s ∧ k.2.2 = t)
/-- Sorted by the pairs. -/
def PrL (a b : List Int × Nat × Nat) : Prop := a.2.1 < b.2.1 ∨ (a.2.1 = b.2.1 ∧ a.2.2 < b.2.2)
theorem fl_next (s t : Nat) : ∀ (L : List (List Int × Nat × Nat)), L.Pairwise PrL → L.filter (PltB s (t + 1)) = L.filter (PltB s t) ++ L.filter (PeqB s t)
  | [], _ => rfl
  | a :: L, h => by
    obtain ⟨h1, h2⟩ := List.pairwise_cons.1 h
    have ih := fl_next s t L h2
    by_cases c1 : PltB s t a = true
    · have c := of_decide_eq_true c1
      rw [List.filter_cons_of_pos (by unfold PltB; exact decide_eq_true (by omega)), List.filter_cons_of_pos c1, List.filter_cons_of_neg (by unfold PeqB; simp; omega), ih]; rfl
    · have c : ¬ (a.2.1 < s ∨ (a.2.1 = s ∧ a.2.2 < t)) := fun x => c1 (decide_eq_true x)
      have z : L.filter (PltB s t) = [] := List.filter_eq_nil_iff.2 fun b hb => by
        have := h1 b hb
        unfold PrL at this
        unfold PltB
        simp only [decide_eq_true_eq]
        omega
      by_cases c2 : PeqB s t a = true
      · have d := of_decide_eq_true c2
        have z2 : L.filter (PeqB s t) = [] := List.filter_eq_nil_iff.2 fun b hb => by
          have := h1 b hb
          unfold PrL at this
          unfold PeqB
          simp only [decide_eq_true_eq]
          omega
        rw [List.filter_cons_of_pos (by unfold PltB; exact decide_eq_true (by omega)), List.filter_cons_of_neg c1, List.filter_cons_of_pos c2, ih, z, z2]; rfl
      · have d : ¬ (a.2.1 = s ∧ a.2.2 = t) := fun x => c2 (decide_eq_true x)
        rw [List.filter_cons_of_neg (by unfold PltB; simp only [decide_eq_true_eq]; omega), List.filter_cons_of_neg c1, List.filter_cons_of_neg c2, ih]
section
variable {m : Mc} {n : Nat} {f : Nat → Nat → Option (List Int)} {L : List (List Int × Nat × Nat)}
theorem mk_one (h1 : ∀ k ∈ L, MkOk m n k.1 k.2.1 k.2.2) {a b : List Int × Nat × Nat} (ha : a ∈ L) (hb : b ∈ L) (e : a.1 = b.1) : a = b := by
  have m1 := h1 a ha
  have m2 := h1 b hb
  have i1 := m1.isf
  have i2 := m2.isf
  rw [e] at i1
  rw [← e] at i2
  have p1 := m1.le _ _ m2.st m2.tn i2
  have p2 := m2.le _ _ m1.st m1.tn i1
  unfold Ple at p1 p2
  exact Prod.ext e (Prod.ext (by omega) (by omega))
theorem pr_step (hn : m.n = (n : Int)) (hf : PrF m f) (h1 : ∀ k ∈ L, MkOk m n k.1 k.2.1 k.2.2) (h2 : ∀ w (s t : Nat), s < n → t < n → IsF m m s t w → ∃ k ∈ L, k.1 = w) (h3 : L.Pairwise PrL) {s t : Nat} (hst : s < t) (ht : t < n) :
    prS f s t ((L.filter (PltB s t)).map (·.1)) = (L.filter (PltB s (t + 1))).map (·.1) := by
  rw [fl_next s t L h3, List.map_append]
  have hs : SepR m m s t (f s t) := hf s t (by omega) (by omega)
  cases e : f s t with
  | none =>
    rw [prS_none e]
    have z : L.filter (PeqB s t) = [] := List.filter_eq_nil_iff.2 fun b hb c => by
      have c := of_decide_eq_true c
      have hb' := (h1 b hb).isf
      rw [c.1, c.2] at hb'
      rw [e] at hs
      exact hs b.1 hb'.wd hb'.tl
    rw [z]; simp
  | some w =>
    rw [e] at hs
    have hw : IsF m m s t w := hs
    obtain ⟨k, hk, ek⟩ := h2 w s t (by omega) ht hw
    have hm := h1 k hk
    have hle := hm.le s t hst ht (by rw [ek]; exact hw)
    by_cases c : k.2.1 = s ∧ k.2.2 = t
    · have hno : ¬ w ∈ (L.filter (PltB s t)).map (·.1) := fun hx => by
        obtain ⟨b, hb, eb⟩ := List.mem_map.1 hx
        obtain ⟨hb1, hb2⟩ := List.mem_filter.1 hb
        have : b = k := mk_one h1 hb1 hk (by rw [eb, ek])
        subst this
        have := of_decide_eq_true hb2
        omega
      rw [prS_new e hno]
      congr 1
      have z : L.filter (PeqB s t) = [k] := by
        have q1 : ∀ b ∈ L, PeqB s t b = true → b = k := fun b hb c2 => by
          have c2 := of_decide_eq_true c2
          have hb' := (h1 b hb).isf
          rw [c2.1, c2.2] at hb'
          exact mk_one h1 hb hk (by rw [ek]; exact IsF.one hb' hw)
        have q2 : k ∈ L.filter (PeqB s t) := List.mem_filter.2 ⟨hk, decide_eq_true c⟩
        have q3 : (L.filter (PeqB s t)).Pairwise PrL := h3.sublist List.filter_sublist
        match hx : L.filter (PeqB s t) with
        | [] => rw [hx] at q2; cases q2
        | [a] =>
          rw [hx] at q2
          rw [List.mem_singleton.1 q2]
        | a :: b :: r =>
          exfalso
          rw [hx] at q3
          have ha : a ∈ L.filter (PeqB s t) := by rw [hx]; simp
          have hb : b ∈ L.filter (PeqB s t) := by rw [hx]; simp
          have e1 := q1 a (List.mem_filter.1 ha).1 (List.mem_filter.1 ha).2
          have e2 := q1 b (List.mem_filter.1 hb).1 (List.mem_filter.1 hb).2
          have := (List.pairwise_cons.1 q3).1 b (by simp)
          rw [e1, e2] at this
          unfold PrL at this
          omega
      rw [z, ← ek]; rfl
    · have hlt : PltB s t k = true := decide_eq_true (by unfold Ple at hle; omega)
      rw [prS_old e (List.mem_map.2 ⟨k, List.mem_filter.2 ⟨hk, hlt⟩, ek⟩)]
      have z : L.filter (PeqB s t) = [] := List.filter_eq_nil_iff.2 fun b hb c2 => by
        have c2 := of_decide_eq_true c2
        have hb' := (h1 b hb).isf
        rw [c2.1, c2.2] at hb'
        have : b = k := mk_one h1 hb hk (by rw [ek]; exact IsF.one hb' hw)
        subst this
        exact c c2
      rw [z]; simp
theorem pr_row (hn : m.n = (n : Int)) (hf : PrF m f) (h1 : ∀ k ∈ L, MkOk m n k.1 k.2.1 k.2.2) (h2 : ∀ w (s t : Nat), s < n → t < n → IsF m m s t w → ∃ k ∈ L, k.1 = w) (h3 : L.Pairwise PrL) {s : Nat} : ∀ (j : Nat), s + 1 + j ≤ n → prRow f s j ((L.filter (PltB s 0)).map (·.1)) = (L.filter (PltB s (s + 1 + j))).map (·.1)
  | 0, _ => by
    show (L.filter (PltB s 0)).map (·.1) = _
    congr 1
    refine List.filter_congr fun k hk => ?_
    have := (h1 k hk).st
    unfold PltB
    exact decide_eq_decide.2 (by omega)
  | j + 1, hj => by
    show prS f s (s + 1 + j) (prRow f s j ((L.filter (PltB s 0)).map (·.1))) = _
    rw [pr_row hn hf h1 h2 h3 j (by omega), pr_step hn hf h1 h2 h3 (by omega) (by omega)]
    rfl
theorem pr_all (hn : m.n = (n : Int)) (hf : PrF m f) (h1 : ∀ k ∈ L, MkOk m n k.1 k.2.1 k.2.2) (h2 : ∀ w (s t : Nat), s < n → t < n → IsF m m s t w → ∃ k ∈ L, k.1 = w) (h3 : L.Pairwise PrL) : ∀ (s : Nat), s ≤ n → prAll f n s = (L.filter (PltB s 0)).map (·.1)
  | 0, _ => by
    show [] = _
    have z : L.filter (PltB 0 0) = [] := List.filter_eq_nil_iff.2 fun b _ => by unfold PltB; simp
    rw [z]; rfl
  | s + 1, hs => by
    show prRow f s (n - (s + 1)) (prAll f n s) = _
    rw [pr_all hn hf h1 h2 h3 s (by omega), pr_row hn hf h1 h2 h3 _ (by omega)]
    congr 1
    refine List.filter_congr fun k hk => ?_
    have := (h1 k hk).tn
    unfold PltB
    exact decide_eq_decide.2 (by omega)
/-- All of them. -/
theorem pr_words (hn : m.n = (n : Int)) (hf : PrF m f) (h1 : ∀ k ∈ L, MkOk m n k.1 k.2.1 k.2.2) (h2 : ∀ w (s t : Nat), s < n → t < n → IsF m m s t w → ∃ k ∈ L, k.1 = w) (h3 : L.Pairwise PrL) : L.map (·.1) = prAll f n n := by
  rw [pr_all hn hf h1 h2 h3 n (Nat.le_refl _)]
  congr 1
  refine (List.filter_eq_self.2 fun k hk => ?_).symm
  have := (h1 k hk).st
  have := (h1 k hk).tn
  unfold PltB
  exact decide_eq_true (by omega)
end
end Go.Proofs.Ytknefgdcnacfoaa
