/-
  The reference's Parse of layer 10: the answers of a text.
-/
import Derived.Test.YtagoilabphmdfaaDoorEOwn
namespace Go.Proofs.YtagoilabphmdfaaDoor
open Go.RowKit

/-- The answers from a place on. -/
def prsA (b : List UInt8) : Nat → List An → Nat → List An × Int × Int
  | 0, l, _ => (l, 0, (b.length : Int))
  | f + 1, l, x =>
    if x < b.length then
      if l.length = 65536 then ([], 3, (x : Int))
      else if (lineV b x).2.2 ≠ 0 then ([], (lineV b x).2.2, (lineV b x).2.1)
      else prsA b f (l ++ [(lineV b x).1]) (lineV b x).2.1.toNat
    else (l, 0, (b.length : Int))
/-- P10.3. -/
def parV (b : List UInt8) : List An × Int × Int := if 16777216 < b.length then ([], 2, 0) else prsA b b.length [] 0
theorem nmsV_next (kd : Int) (b : List UInt8) : ∀ (f : Nat) (l : List Int) (i : Nat), (nmsV kd b f l i).2.2 = 0 → ∃ j : Nat, (nmsV kd b f l i).2.1 = (j : Int) ∧ i ≤ j
  | 0, l, i, _ => ⟨i, rfl, Nat.le_refl _⟩
  | f + 1, l, i, h => by
    unfold nmsV at h ⊢
    by_cases h1 : i < b.length ∧ bt8 b i ≠ 10
    · rw [if_pos h1] at h ⊢
      by_cases h2 : kd = 2 ∨ bt8 b i ≠ 32
      · rw [if_pos h2] at h; exact absurd (show (6 : Int) = 0 from h) (by decide)
      · rw [if_neg h2] at h ⊢
        by_cases h3 : l.length = 4096
        · rw [if_pos h3] at h; exact absurd (show (2 : Int) = 0 from h) (by decide)
        · rw [if_neg h3] at h ⊢
          by_cases h4 : (numV b (i + 1)).2.2 ≠ 0
          · rw [if_pos h4] at h; exact absurd h h4
          · rw [if_neg h4] at h ⊢
            obtain ⟨j, e, hj⟩ := nmsV_next kd b f _ _ h
            have := (numV_le (b := b) (i := i + 1) (by omega)).1
            exact ⟨j, e, by omega⟩
    · rw [if_neg h1]; exact ⟨i, rfl, Nat.le_refl _⟩
theorem lineV_next {b : List UInt8} {x : Nat} (h : (lineV b x).2.2 = 0) : ∃ n : Nat, (lineV b x).2.1 = (n : Int) ∧ x < n ∧ n ≤ b.length := by
  unfold lineV at h ⊢
  by_cases h0 : kdB (bt8 b x) = 0
  · rw [if_pos h0] at h; exact absurd (show (6 : Int) = 0 from h) (by decide)
  · rw [if_neg h0] at h ⊢
    unfold mkL at h ⊢
    by_cases h1 : (nmsV (kdB (bt8 b x)) b b.length [] (x + 1)).2.2 ≠ 0
    · rw [if_pos h1] at h; exact absurd h h1
    · rw [if_neg h1] at h ⊢
      obtain ⟨j, e, hj⟩ := nmsV_next (kdB (bt8 b x)) b b.length [] (x + 1) (by simpa using h1)
      by_cases h2 : (b.length : Int) ≤ (nmsV (kdB (bt8 b x)) b b.length [] (x + 1)).2.1
      · rw [if_pos h2] at h; exact absurd (show (6 : Int) = 0 from h) (by decide)
      · rw [if_neg h2]
        rw [e] at h2 ⊢
        exact ⟨j + 1, rfl, by omega, by omega⟩
theorem prsA_end {b : List UInt8} {f : Nat} {l : List An} {x : Nat} (h : ¬ x < b.length) : prsA b f l x = (l, 0, (b.length : Int)) := by
  cases f
  · rfl
  · unfold prsA; rw [if_neg h]
theorem prsA_many {b : List UInt8} {f : Nat} {l : List An} {x : Nat} (hf : b.length ≤ x + f) (h1 : x < b.length) (h2 : l.length = 65536) : prsA b f l x = ([], 3, (x : Int)) := by
  cases f
  · omega
  · unfold prsA; rw [if_pos h1, if_pos h2]
theorem prsA_bad {b : List UInt8} {f : Nat} {l : List An} {x : Nat} (hf : b.length ≤ x + f) (h1 : x < b.length) (h2 : l.length ≠ 65536) (h3 : (lineV b x).2.2 ≠ 0) : prsA b f l x = ([], (lineV b x).2.2, (lineV b x).2.1) := by
  cases f
  · omega
  · unfold prsA; rw [if_pos h1, if_neg h2, if_pos h3]
theorem prsA_step {b : List UInt8} {f : Nat} {l : List An} {x n : Nat} (hf : b.length ≤ x + f) (h1 : x < b.length) (h2 : l.length ≠ 65536) (h3 : (lineV b x).2.2 = 0) (hn : (lineV b x).2.1 = (n : Int)) : ∃ g, f = g + 1 ∧ prsA b f l x = prsA b g (l ++ [(lineV b x).1]) n := by
  cases f
  · omega
  · refine ⟨_, rfl, ?_⟩
    rw [prsA, if_pos h1, if_neg h2, if_neg (by rw [h3]; simp), hn]
    rfl
theorem wpl_pushPs {w : World} {ops : Array Oper} {rest : List Oper} {o : Oper} {a : Act} {Q : Exit → Act → World → Prop} (hgd : o.guard = none) (s y : Operand) (ho : o.op = .call { callee := .builtin .append, args := #[s, y], argTypes := #[22, 22] })
    (B : Nat) (v : Value) (l : List Pa) (hs : a.eval s = v) (h : OwnPs w B v l) (p : Pa) (hp : RdPa w p) (ha : ∀ x, (p.a1 = some x ∨ p.a2 = some x) → v.ownBlock ≠ some x.block ∧ x.block < w.heap.size) (g c : Nat) (hx : a.eval y = .slice (some ⟨g, 0, none⟩) 1 c) (hc : ∀ j, j < 3 → w.cell? ⟨g, j, none⟩ = (paC p)[j]?) (hl : l.length < 1000000) (hB : B ≤ w.heap.size)
    (h' : ∀ v' w', OwnPs w' B v' (l ++ [p]) → Below B w w' → wpList Tryd.prog ops Q rest (a.put o.dst v') w') :
    wpList Tryd.prog ops Q (o :: rest) a w := by
  refine wpList_plain hgd fun K hK => ?_
  obtain ⟨v', w', hrun, r1, r2⟩ := h.push o.type p hp ha g c hc hl hB
  unfold Oper.wp
  simp [execOp, ho, resolve, invoke, builtin, hs, hx, hrun, Result.andThen]
  exact hK _ _ (h' v' w' r1 r2)
theorem balA {w w1 : World} {B : Nat} (h : Below B w w1) (o : Obj) (hB : B ≤ w1.heap.size := by first | exact Nat.le_refl _ | simp) : Below B w (w1.alloc o) := h.alloc hB o
def PaPost (w : World) (r : List An × Int × Int) (e : Ending) (w' : World) : Prop :=
  ∃ a' c' l, e = .returned (.tuple #[.slice a' (List.length l) c', .int .i64 r.2.1, .int .i64 r.2.2]) ∧ RdPs w' a' l ∧ anL l = r.1 ∧ (∀ p ∈ l, p.an.out.length ≤ maxLen ∧ p.an.word.length ≤ maxLen) ∧ Below w.heap.size w w'
theorem RdPs.nil (w : World) (a : Option Addr) : RdPs w a [] := ⟨.inl rfl, fun _ h => (by cases h)⟩

end Go.Proofs.YtagoilabphmdfaaDoor
