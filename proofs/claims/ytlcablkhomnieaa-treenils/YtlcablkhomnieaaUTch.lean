/-
  Answers as texts, as the program reads them: the same as the document's answer. Plain words.
-/
import Derived.Test.YtlcablkhomnieaaELine
namespace Go.Proofs.Ytlcablkhomnieaa

/-- The numbers behind a letter: the list, the place behind them, no error; or nothing, the place, the error. -/
def nmsP (b : List UInt8) : Nat → List Int → Nat → List Int × Nat × Int
  | 0, l, i => (l, i, 0)
  | f + 1, l, i =>
    if i < b.length ∧ bt8 b i = 32 then
      if l.length = 4096 then ([], i, 2)
      else if (numV b (i + 1)).2.2 ≠ 0 then ([], (numV b (i + 1)).2.1, (numV b (i + 1)).2.2)
      else nmsP b f (l ++ [((numV b (i + 1)).1 : Int)]) (numV b (i + 1)).2.1
    else (l, i, 0)
theorem nmsP_end {b : List UInt8} {f : Nat} {l : List Int} {i : Nat} (h : ¬ (i < b.length ∧ bt8 b i = 32)) : nmsP b f l i = (l, i, 0) := by
  cases f
  · rfl
  · unfold nmsP; rw [if_neg h]
theorem nmsP_long {b : List UInt8} {f : Nat} {l : List Int} {i : Nat} (hf : b.length ≤ i + f) (h1 : i < b.length) (h2 : bt8 b i = 32) (h4 : l.length = 4096) : nmsP b f l i = ([], i, 2) := by
  cases f
  · omega
  · unfold nmsP; rw [if_pos ⟨h1, h2⟩, if_pos h4]
theorem nmsP_num {b : List UInt8} {f : Nat} {l : List Int} {i : Nat} (hf : b.length ≤ i + f) (h1 : i < b.length) (h2 : bt8 b i = 32) (h4 : l.length ≠ 4096) (h5 : (numV b (i + 1)).2.2 ≠ 0) : nmsP b f l i = ([], (numV b (i + 1)).2.1, (numV b (i + 1)).2.2) := by
  cases f
  · omega
  · unfold nmsP; rw [if_pos ⟨h1, h2⟩, if_neg h4, if_pos h5]
theorem nmsP_step {b : List UInt8} {f : Nat} {l : List Int} {i : Nat} (hf : b.length ≤ i + f) (h1 : i < b.length) (h2 : bt8 b i = 32) (h4 : l.length ≠ 4096) (h5 : (numV b (i + 1)).2.2 = 0) : ∃ g, f = g + 1 ∧ nmsP b f l i = nmsP b g (l ++ [((numV b (i + 1)).1 : Int)]) (numV b (i + 1)).2.1 := by
  cases f
  · omega
  · refine ⟨_, rfl, ?_⟩
    rw [nmsP, if_pos ⟨h1, h2⟩, if_neg h4, if_neg (by rw [h5]; simp)]
/-- Where they end. -/
theorem nmsP_le (b : List UInt8) : ∀ (f : Nat) (l : List Int) (i : Nat), i ≤ b.length → i ≤ (nmsP b f l i).2.1 ∧ (nmsP b f l i).2.1 ≤ b.length
  | 0, l, i, h => ⟨Nat.le_refl _, h⟩
  | f + 1, l, i, h => by
    unfold nmsP
    by_cases h1 : i < b.length ∧ bt8 b i = 32
    · rw [if_pos h1]
      have hn := numV_le (b := b) (i := i + 1) (by omega)
      by_cases h3 : l.length = 4096
      · rw [if_pos h3]; exact ⟨Nat.le_refl _, h⟩
      · rw [if_neg h3]
        by_cases h4 : (numV b (i + 1)).2.2 ≠ 0
        · rw [if_pos h4]; exact ⟨show i ≤ (numV b (i + 1)).2.1 by omega, hn.2⟩
        · rw [if_neg h4]
          have := nmsP_le b f (l ++ [((numV b (i + 1)).1 : Int)]) (numV b (i + 1)).2.1 hn.2
          exact ⟨by omega, this.2⟩
    · rw [if_neg h1]; exact ⟨Nat.le_refl _, h⟩
theorem nmsP_len (b : List UInt8) : ∀ (f : Nat) (l : List Int) (i : Nat), l.length ≤ 4096 → (nmsP b f l i).1.length ≤ 4096
  | 0, l, i, h => h
  | f + 1, l, i, h => by
    unfold nmsP
    by_cases h1 : i < b.length ∧ bt8 b i = 32
    · rw [if_pos h1]
      by_cases h3 : l.length = 4096
      · rw [if_pos h3]; exact Nat.zero_le _
      · rw [if_neg h3]
        by_cases h4 : (numV b (i + 1)).2.2 ≠ 0
        · rw [if_pos h4]; exact Nat.zero_le _
        · rw [if_neg h4]
          exact nmsP_len b f _ _ (by simp; omega)
    · rw [if_neg h1]; exact h
/-- The line's numbers, held against the document's. -/
theorem nmsV_nmsP {kd : Int} (hk : kd ≠ 2) (b : List UInt8) : ∀ (f : Nat) (l : List Int) (i : Nat), i ≤ b.length → b.length ≤ i + f →
    nmsV kd b f l i = if (nmsP b f l i).2.2 ≠ 0 then ([], ((nmsP b f l i).2.1 : Int), (nmsP b f l i).2.2) else if (nmsP b f l i).2.1 < b.length ∧ bt8 b (nmsP b f l i).2.1 ≠ 10 then ([], ((nmsP b f l i).2.1 : Int), 6) else ((nmsP b f l i).1, ((nmsP b f l i).2.1 : Int), 0)
  | 0, l, i, h, hf => by
    have : ¬ (i < b.length ∧ bt8 b i ≠ 10) := fun h => by omega
    rw [nmsV_end this]
    show _ = if (0 : Int) ≠ 0 then _ else if i < b.length ∧ bt8 b i ≠ 10 then _ else _
    rw [if_neg (by simp), if_neg this]
    rfl
  | f + 1, l, i, h, hf => by
    by_cases h1 : i < b.length ∧ bt8 b i = 32
    · by_cases h3 : l.length = 4096
      · rw [nmsV_long hf h1.1 h1.2 hk h3, nmsP_long hf h1.1 h1.2 h3]; rfl
      · by_cases h4 : (numV b (i + 1)).2.2 ≠ 0
        · rw [nmsV_num hf h1.1 h1.2 hk h3 h4, nmsP_num hf h1.1 h1.2 h3 h4]; rw [if_pos h4]
        · have h4' : (numV b (i + 1)).2.2 = 0 := by simpa using h4
          obtain ⟨g, e1, e2⟩ := nmsV_step hf h1.1 h1.2 hk h3 h4'
          obtain ⟨g', e3, e4⟩ := nmsP_step hf h1.1 h1.2 h3 h4'
          have hg : g = f := by omega
          have hg' : g' = f := by omega
          rw [hg] at e2
          rw [hg'] at e4
          have hn := numV_le (b := b) (i := i + 1) (by omega)
          rw [e2, e4]
          exact nmsV_nmsP hk b f _ _ hn.2 (by omega)
    · rw [nmsP_end h1]
      show _ = if (0 : Int) ≠ 0 then _ else if i < b.length ∧ bt8 b i ≠ 10 then _ else _
      rw [if_neg (by simp)]
      by_cases h2 : i < b.length ∧ bt8 b i ≠ 10
      · rw [if_pos h2, nmsV_form hf h2.1 h2.2 (.inr (fun e => h1 ⟨h2.1, e⟩))]
      · rw [if_neg h2, nmsV_end h2]
/-- A line's end: the place behind it. -/
def brkP (b : List UInt8) (i : Nat) : Nat × Int := if i < b.length ∧ bt8 b i = 10 then (i + 1, 0) else (i, 6)
theorem brkP_ok {b : List UInt8} {i : Nat} (h1 : i < b.length) (h2 : bt8 b i = 10) : brkP b i = (i + 1, 0) := by unfold brkP; rw [if_pos ⟨h1, h2⟩]
theorem brkP_no {b : List UInt8} {i : Nat} (h : ¬ (i < b.length ∧ bt8 b i = 10)) : brkP b i = (i, 6) := by unfold brkP; rw [if_neg h]
/-- A line, as the program reads it. -/
def linP (b : List UInt8) (x : Nat) : An × Nat × Int :=
  if bt8 b x = 121 then (if (brkP b (x + 1)).2 = 0 then ⟨2, [], []⟩ else an0, brkP b (x + 1))
  else if bt8 b x = 111 ∨ bt8 b x = 110 then
    (let r := nmsP b b.length [] (x + 1)
     if r.2.2 ≠ 0 then (an0, r.2.1, r.2.2)
     else (if (brkP b r.2.1).2 = 0 then (if bt8 b x = 111 then ⟨1, r.1, []⟩ else ⟨3, [], r.1⟩) else an0, brkP b r.2.1))
  else (an0, x, 6)
theorem linP_lineV {b : List UInt8} {x : Nat} (hx : x < b.length) : lineV b x = ((linP b x).1, ((linP b x).2.1 : Int), (linP b x).2.2) := by
  by_cases hy : bt8 b x = 121
  · rw [line_kd (kd := 2) (by rw [hy]; rfl) (by decide)]
    unfold linP
    rw [if_pos hy]
    by_cases h1 : x + 1 < b.length
    · by_cases h2 : bt8 b (x + 1) = 10
      · rw [nmsV_end (fun h => h.2 h2), mkL_ok h1, brkP_ok h1 h2]; rfl
      · rw [nmsV_form (by omega) h1 h2 (.inl rfl), mkL_bad (by decide), brkP_no (fun h => h2 h.2)]; rfl
    · have e : x + 1 = b.length := by omega
      rw [nmsV_end (fun h => h1 h.1), brkP_no (fun h => h1 h.1)]
      rw [e, mkL_end]; rfl
  · by_cases ho : bt8 b x = 111 ∨ bt8 b x = 110
    · have key : ∀ kd : Int, kd = 1 ∨ kd = 3 → kdB (bt8 b x) = kd → (if kd = 1 then bt8 b x = 111 else bt8 b x ≠ 111) → lineV b x = ((linP b x).1, ((linP b x).2.1 : Int), (linP b x).2.2) := fun kd hk hkd hz => by
        rw [line_kd hkd (by omega), nmsV_nmsP (by omega) b b.length [] (x + 1) (by omega) (by omega)]
        unfold linP
        rw [if_neg hy, if_pos ho]
        obtain ⟨g1, g2⟩ := nmsP_le b b.length [] (x + 1) (by omega)
        generalize nmsP b b.length [] (x + 1) = r at *
        obtain ⟨L, i, e⟩ := r
        simp only at g1 g2 ⊢
        by_cases he : e ≠ 0
        · rw [if_pos he, if_pos he, mkL_bad he]
        · rw [if_neg he, if_neg he]
          by_cases h1 : i < b.length
          · by_cases h2 : bt8 b i = 10
            · rw [if_neg (fun h => h.2 h2), brkP_ok h1 h2, mkL_ok h1]
              rcases hk with rfl | rfl
              · rw [if_pos rfl] at hz; simp [hz]
              · rw [if_neg (by decide)] at hz; simp [hz]
            · rw [if_pos ⟨h1, h2⟩, brkP_no (fun h => h2 h.2), mkL_bad (by decide)]; simp
          · have e : i = b.length := by omega
            subst e
            rw [if_neg (fun h => h1 h.1), brkP_no (fun h => h1 h.1), mkL_end]; simp
      rcases ho with h | h
      · exact key 1 (.inl rfl) (by rw [h]; rfl) (by rw [if_pos rfl]; exact h)
      · exact key 3 (.inr rfl) (by rw [h]; rfl) (by rw [if_neg (by decide)]; omega)
    · have h0 : kdB (bt8 b x) = 0 := by
        unfold kdB
        rw [if_neg (fun h => ho (.inr h)), if_neg hy, if_neg (fun h => ho (.inl h))]
      unfold lineV linP
      rw [if_pos h0, if_neg hy, if_neg ho]

end Go.Proofs.Ytlcablkhomnieaa
