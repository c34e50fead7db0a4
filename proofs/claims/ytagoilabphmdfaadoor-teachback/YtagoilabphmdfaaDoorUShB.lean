/-
  Answers as texts, there and back. Plain words.
-/
import Derived.Test.YtagoilabphmdfaaDoorUPar
import Derived.Test.YtagoilabphmdfaaDoorUBack
namespace Go.Proofs.YtagoilabphmdfaaDoor

theorem dr_at {b : List UInt8} {i : Nat} {c : UInt8} {r : List UInt8} (h : b.drop i = c :: r) : i < b.length ∧ bt8 b i = (c.toNat : Int) ∧ b.drop (i + 1) = r := by
  have hl : i < b.length := by
    refine Classical.byContradiction fun n => ?_
    rw [List.drop_eq_nil_of_le (by omega)] at h
    cases h
  rw [List.drop_eq_getElem_cons hl] at h
  injection h with h1 h2
  refine ⟨hl, ?_, h2⟩
  unfold bt8
  have e : b.getD i 0 = b[i] := by simp [hl]
  rw [e, h1]
theorem dr_of {b : List UInt8} {i : Nat} (c : UInt8) (hl : i < b.length) (hz : bt8 b i = (c.toNat : Int)) : b.drop i = c :: b.drop (i + 1) := by
  rw [List.drop_eq_getElem_cons hl]
  congr 1
  unfold bt8 at hz
  have e : b.getD i 0 = b[i] := by simp [hl]
  rw [e] at hz
  exact UInt8.toNat_inj.1 (by omega)
/-- Numbers as texts have them. -/
def Num9 (x : Int) : Prop := ∃ u : Nat, x = (u : Int) ∧ u ≤ 9999
theorem numV_9 (b : List UInt8) (i : Nat) : (numV b i).1 ≤ 9999 := by
  by_cases h0 : (digs b i).length = 0
  · rw [numV_none h0]; exact Nat.zero_le _
  by_cases h4 : (digs b i).length ≤ 4
  · by_cases hz : (digs b i).length ≤ 1 ∨ bt8 b i ≠ 48
    · rw [numV_ok (by omega) h4 hz]
      have := vj_four (b := b) (i := i) (Nat.le_refl _) h4
      show vj b i (digs b i).length ≤ 9999
      omega
    · have hz' : 1 < (digs b i).length ∧ bt8 b i = 48 := ⟨by omega, by omega⟩
      rw [numV_lead hz'.1 hz'.2]; exact Nat.zero_le _
  · by_cases hz : bt8 b i = 48
    · rw [numV_lead (by omega) hz]; exact Nat.zero_le _
    · rw [numV_many (by omega) hz]; exact Nat.zero_le _

/-! ### What is parsed is shown as it was -/
theorem nmsP_was (b : List UInt8) : ∀ (f : Nat) (l : List Int) (i : Nat), (nmsP b f l i).2.2 = 0 → ∃ L, (nmsP b f l i).1 = l ++ L ∧ b.drop i = nmL L ++ b.drop (nmsP b f l i).2.1 ∧ ∀ x ∈ L, Num9 x
  | 0, l, i, _ => ⟨[], by simp [nmsP], by simp [nmsP, nmL], fun x hx => (by cases hx)⟩
  | f + 1, l, i, h => by
    unfold nmsP at h ⊢
    by_cases h1 : i < b.length ∧ bt8 b i = 32
    · rw [if_pos h1] at h ⊢
      by_cases h3 : l.length = 4096
      · rw [if_pos h3] at h; exact absurd (show (2 : Int) = 0 from h) (by decide)
      · rw [if_neg h3] at h ⊢
        by_cases h4 : (numV b (i + 1)).2.2 ≠ 0
        · rw [if_pos h4] at h; exact absurd h h4
        · rw [if_neg h4] at h ⊢
          obtain ⟨L, e1, e2, e3⟩ := nmsP_was b f _ _ h
          obtain ⟨n1, -⟩ := num_was (b := b) (i := i + 1) (by simpa using h4)
          refine ⟨((numV b (i + 1)).1 : Int) :: L, by rw [e1]; simp, ?_, fun x hx => ?_⟩
          · rw [dr_of 32 h1.1 h1.2, n1, e2]
            simp [nmL, itoa_nat]
          · rcases List.mem_cons.1 hx with rfl | hx
            · exact ⟨_, rfl, numV_9 b (i + 1)⟩
            · exact e3 x hx
    · rw [if_neg h1]
      exact ⟨[], by simp, by simp [nmL], fun x hx => (by cases hx)⟩
/-- An answer whose numbers texts have. -/
def An9 (a : An) : Prop := (∀ x ∈ a.out, Num9 x) ∧ ∀ x ∈ a.word, Num9 x
theorem brkP_was {b : List UInt8} {i : Nat} (h : (brkP b i).2 = 0) : b.drop i = 10 :: b.drop (brkP b i).1 := by
  unfold brkP at h ⊢
  by_cases h1 : i < b.length ∧ bt8 b i = 10
  · rw [if_pos h1]; exact dr_of 10 h1.1 h1.2
  · rw [if_neg h1] at h; exact absurd (show (6 : Int) = 0 from h) (by decide)
theorem linP_was {b : List UInt8} {x : Nat} (hx : x < b.length) (h : (linP b x).2.2 = 0) : b.drop x = lnA (linP b x).1 ++ b.drop (linP b x).2.1 ∧ An9 (linP b x).1 := by
  unfold linP at h ⊢
  by_cases hy : bt8 b x = 121
  · rw [if_pos hy] at h ⊢
    have hb : (brkP b (x + 1)).2 = 0 := h
    simp only [if_pos hb]
    refine ⟨?_, fun x hx => (by cases hx), fun x hx => (by cases hx)⟩
    rw [dr_of 121 hx hy, brkP_was hb]
    rfl
  · rw [if_neg hy] at h ⊢
    by_cases ho : bt8 b x = 111 ∨ bt8 b x = 110
    · rw [if_pos ho] at h ⊢
      simp only at h ⊢
      by_cases he : (nmsP b b.length [] (x + 1)).2.2 ≠ 0
      · rw [if_pos he] at h; exact absurd h he
      · rw [if_neg he] at h ⊢
        have hb : (brkP b (nmsP b b.length [] (x + 1)).2.1).2 = 0 := h
        obtain ⟨L, e1, e2, e3⟩ := nmsP_was b b.length [] (x + 1) (by simpa using he)
        simp only [if_pos hb]
        rw [List.nil_append] at e1
        rcases ho with hz | hz
        · simp only [if_pos hz]
          rw [e1]
          refine ⟨?_, e3, fun x hx => (by cases hx)⟩
          rw [dr_of 111 hx hz, e2, brkP_was hb]
          simp [lnA]
        · simp only [if_neg (show ¬ bt8 b x = 111 by omega)]
          rw [e1]
          refine ⟨?_, fun x hx => (by cases hx), e3⟩
          rw [dr_of 110 hx hz, e2, brkP_was hb]
          simp [lnA]
    · rw [if_neg ho] at h; exact absurd (show (6 : Int) = 0 from h) (by decide)
theorem prsA_was (b : List UInt8) : ∀ (f : Nat) (l : List An) (x : Nat), x ≤ b.length → b.length ≤ x + f → (prsA b f l x).2.1 = 0 → ∃ L, (prsA b f l x).1 = l ++ L ∧ b.drop x = shA L ∧ (prsA b f l x).2.2 = (b.length : Int) ∧ ∀ a ∈ L, An9 a
  | 0, l, x, hx, hf, _ => ⟨[], by simp [prsA], by rw [List.drop_eq_nil_of_le (by omega)]; simp [shA], rfl, fun a ha => (by cases ha)⟩
  | f + 1, l, x, hx, hf, h => by
    unfold prsA at h ⊢
    by_cases h1 : x < b.length
    · rw [if_pos h1] at h ⊢
      by_cases h2 : l.length = 65536
      · rw [if_pos h2] at h; exact absurd (show (3 : Int) = 0 from h) (by decide)
      · rw [if_neg h2] at h ⊢
        by_cases h3 : (lineV b x).2.2 ≠ 0
        · rw [if_pos h3] at h; exact absurd h h3
        · rw [if_neg h3] at h ⊢
          have hv : (lineV b x).2.2 = 0 := by simpa using h3
          obtain ⟨n, hn, hn1, hn2⟩ := lineV_next hv
          have hL := linP_lineV h1
          have hp2 : (linP b x).2.2 = 0 := by rw [hL] at hv; exact hv
          obtain ⟨w1, w2⟩ := linP_was h1 hp2
          rw [hn] at h ⊢
          rw [Int.toNat_natCast] at h ⊢
          obtain ⟨L, e1, e2, e3, e4⟩ := prsA_was b f _ n hn2 (by omega) h
          have hnn : (linP b x).2.1 = n := by rw [hL] at hn; simp only at hn; omega
          have h10 : (lineV b x).1 = (linP b x).1 := by rw [hL]
          rw [h10] at e1 e3 ⊢
          refine ⟨(linP b x).1 :: L, by rw [e1]; simp, ?_, e3, fun a ha => ?_⟩
          · rw [w1, hnn, e2]; simp [shA]
          · rcases List.mem_cons.1 ha with rfl | ha
            · exact w2
            · exact e4 a ha
    · rw [if_neg h1]
      exact ⟨[], by simp, by rw [List.drop_eq_nil_of_le (by omega)]; simp [shA], rfl, fun a ha => (by cases ha)⟩
theorem parV_was {b : List UInt8} (h : (parV b).2.1 = 0) : shA (parV b).1 = b ∧ (parV b).2.2 = (b.length : Int) ∧ ∀ a ∈ (parV b).1, An9 a := by
  unfold parV at h ⊢
  by_cases hm : 16777216 < b.length
  · rw [if_pos hm] at h; exact absurd (show (2 : Int) = 0 from h) (by decide)
  · rw [if_neg hm] at h ⊢
    obtain ⟨L, e1, e2, e3, e4⟩ := prsA_was b b.length [] 0 (Nat.zero_le _) (by omega) h
    rw [List.nil_append] at e1
    rw [e1]
    exact ⟨by rw [← e2]; simp, e3, e4⟩

/-! ### What is shown is parsed as it was -/
theorem nmsP_back {b : List UInt8} : ∀ (xs : List Int) (l : List Int) (i f : Nat) (r : List UInt8), (∀ x ∈ xs, Num9 x) → b.drop i = nmL xs ++ 10 :: r → l.length + xs.length ≤ 4096 → b.length ≤ i + f → nmsP b f l i = (l ++ xs, i + (nmL xs).length, 0)
  | [], l, i, f, r, _, hb, _, _ => by
    have e : b.drop i = 10 :: r := by simpa [nmL] using hb
    obtain ⟨-, h2, -⟩ := dr_at e
    rw [nmsP_end (fun h => by have := h.2; rw [h2] at this; exact absurd this (by decide))]
    simp [nmL]
  | x :: xs, l, i, f, r, hx, hb, hl, hf => by
    obtain ⟨u, rfl, hu⟩ := hx x (by simp)
    have e : b.drop i = 32 :: (Lib.decDigits u ++ (nmL xs ++ 10 :: r)) := by rw [hb]; simp [nmL, itoa_nat]
    obtain ⟨h1, h2, h3⟩ := dr_at e
    have hn := num_back (b := b) (i := i + 1) hu h3 fun c hc => by
      cases xs with
      | nil => simp [nmL] at hc; subst hc; decide
      | cons y ys => simp [nmL] at hc; subst hc; decide
    have hlen : l.length + (xs.length + 1) ≤ 4096 := hl
    obtain ⟨g, rfl, hst⟩ := nmsP_step (l := l) hf h1 h2 (by omega) (by rw [hn])
    rw [hst, hn]
    have hd : b.drop (i + 1 + (Lib.decDigits u).length) = nmL xs ++ 10 :: r := by
      rw [← List.drop_drop, h3, List.drop_left]
    rw [nmsP_back xs _ _ g r (fun y hy => hx y (by simp [hy])) hd (by simp; omega) (by have := dec_pos' u; omega)]
    simp [nmL, itoa_nat]
    omega
/-- Answers that can be read back: what the law makes. -/
def Back (a : An) : Prop := (∃ xs, a = ⟨1, xs, []⟩ ∧ (∀ x ∈ xs, Num9 x) ∧ xs.length ≤ 4096) ∨ a = ⟨2, [], []⟩
theorem linP_back {b : List UInt8} {a : An} {x : Nat} {r : List UInt8} (ha : Back a) (hb : b.drop x = lnA a ++ r) : x < b.length ∧ linP b x = (a, x + (lnA a).length, 0) := by
  rcases ha with ⟨xs, rfl, h9, hl⟩ | rfl
  · have e : b.drop x = 111 :: (nmL xs ++ 10 :: r) := by rw [hb]; simp [lnA]
    obtain ⟨h1, h2, h3⟩ := dr_at e
    refine ⟨h1, ?_⟩
    have h2' : bt8 b x = 111 := h2
    have hn := nmsP_back xs [] (x + 1) b.length r h9 h3 (by simpa using hl) (by omega)
    have hd : b.drop (x + 1 + (nmL xs).length) = 10 :: r := by rw [← List.drop_drop, h3, List.drop_left]
    obtain ⟨k1, k2, -⟩ := dr_at hd
    have hbk := brkP_ok k1 k2
    unfold linP
    rw [if_neg (by omega), if_pos (.inl h2')]
    simp only [hn, hbk]
    simp [h2', lnA]
    omega
  · have e : b.drop x = 121 :: (10 :: r) := by rw [hb]; simp [lnA]
    obtain ⟨h1, h2, h3⟩ := dr_at e
    have h2' : bt8 b x = 121 := h2
    obtain ⟨k1, k2, -⟩ := dr_at h3
    have hbk := brkP_ok k1 k2
    refine ⟨h1, ?_⟩
    unfold linP
    rw [if_pos h2']
    simp [hbk, lnA]
theorem prsA_back {b : List UInt8} : ∀ (L : List An) (l : List An) (x f : Nat), (∀ a ∈ L, Back a) → b.drop x = shA L → l.length + L.length ≤ 65536 → b.length ≤ x + f → prsA b f l x = (l ++ L, 0, (b.length : Int))
  | [], l, x, f, _, hb, _, _ => by
    have : b.length ≤ x := List.drop_eq_nil_iff.1 (by simpa [shA] using hb)
    rw [prsA_end (by omega)]; simp
  | a :: L, l, x, f, ha, hb, hl, hf => by
    have e : b.drop x = lnA a ++ shA L := by rw [hb]; simp [shA]
    obtain ⟨h1, h2⟩ := linP_back (ha a (by simp)) e
    have hL := linP_lineV h1
    rw [h2] at hL
    have hlen : l.length + (L.length + 1) ≤ 65536 := hl
    obtain ⟨g, rfl, hst⟩ := prsA_step (l := l) hf h1 (by omega) (by rw [hL]) (n := x + (lnA a).length) (by rw [hL])
    rw [hst, hL]
    have hd : b.drop (x + (lnA a).length) = shA L := by rw [← List.drop_drop, e, List.drop_left]
    have hp : 0 < (lnA a).length := by
      rcases ha a (by simp) with ⟨xs, rfl, -, -⟩ | rfl
      · simp [lnA]
      · simp [lnA]
    rw [prsA_back L _ _ g (fun c hc => ha c (by simp [hc])) hd (by simp; omega) (by omega)]
    simp
theorem parV_back {L : List An} (ha : ∀ a ∈ L, Back a) (hl : L.length ≤ 65536) (hm : (shA L).length ≤ 16777216) : parV (shA L) = (L, 0, ((shA L).length : Int)) := by
  unfold parV
  rw [if_neg (by omega), prsA_back L [] 0 (shA L).length ha (by simp) (by simpa using hl) (by omega)]
  simp

end Go.Proofs.YtagoilabphmdfaaDoor
