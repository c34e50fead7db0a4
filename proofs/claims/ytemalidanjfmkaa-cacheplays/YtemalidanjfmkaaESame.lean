/-
  The reference's Same of layer 10: the same answers?
-/
import Derived.Test.YtemalidanjfmkaaK28
import Derived.Test.YtemalidanjfmkaaK1
namespace Go.Proofs.Ytemalidanjfmkaa
open Go.RowKit

/-- The same answer? -/
def smA (a b : An) : Bool := decide (a.kind = b.kind ∧ a.out = b.out ∧ a.word = b.word)
def smL : List An → List An → Bool
  | [], [] => true
  | a :: l, b :: k => smA a b && smL l k
  | _, _ => false
theorem smL_iff : ∀ {l k : List An}, smL l k = true ↔ l = k
  | [], [] => by simp [smL]
  | [], b :: k => by simp [smL]
  | a :: l, [] => by simp [smL]
  | a :: l, b :: k => by
    have ih := smL_iff (l := l) (k := k)
    rw [smL, Bool.and_eq_true, ih]
    unfold smA
    rw [decide_eq_true_eq]
    constructor
    · rintro ⟨⟨h1, h2, h3⟩, h4⟩
      cases a; cases b
      simp only at h1 h2 h3
      rw [h1, h2, h3, h4]
    · intro e
      injection e with e1 e2
      rw [e1]
      exact ⟨⟨rfl, rfl, rfl⟩, e2⟩
theorem smL_ne {l k : List An} (h : l.length ≠ k.length) : smL l k = false := by
  cases c : smL l k
  · rfl
  · rw [smL_iff] at c; rw [c] at h; exact absurd rfl h
theorem smL_cons (a b : An) (l k : List An) : smL (a :: l) (b :: k) = (smA a b && smL l k) := rfl

end Go.Proofs.Ytemalidanjfmkaa
