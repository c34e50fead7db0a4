/-
  Small words that the walks of layer 10 use.
-/
import Derived.Test.YtagoilabphmdfaaDoorHPar
import Derived.Test.YtagoilabphmdfaaDoorESame
namespace Go.Proofs.YtagoilabphmdfaaDoor
open Go.RowKit

theorem hugA_each {most : Int} : ∀ (l : List An) (n : Int), 0 ≤ n → hugA most l n = false → ∀ a ∈ l, (a.out.length : Int) ≤ most ∧ (a.word.length : Int) ≤ most
  | [], _, _, _ => fun a h => (by cases h)
  | a :: l, n, hn, h => fun x hx => by
    unfold hugA at h
    by_cases h1 : most - n < (a.out.length : Int)
    · rw [if_pos h1] at h; cases h
    · rw [if_neg h1] at h
      by_cases h2 : most - (n + (a.out.length : Int)) < (a.word.length : Int)
      · rw [if_pos h2] at h; cases h
      · rw [if_neg h2] at h
        rcases List.mem_cons.1 hx with rfl | hx
        · exact ⟨by omega, by omega⟩
        · exact hugA_each l _ (by omega) h x hx
theorem hugV_each {most : Int} {l : List An} (h : hugV most l = false) : ∀ a ∈ l, (a.out.length : Int) ≤ most ∧ (a.word.length : Int) ≤ most := by
  unfold hugV at h
  by_cases h1 : most < (l.length : Int)
  · rw [if_pos h1] at h; cases h
  · rw [if_neg h1] at h; exact hugA_each l 0 (by omega) h
theorem RdPs.one (w : World) (p : Pa) (t : TypeId) (h : RdPa (w.alloc (.cells #[.int .i64 p.an.kind, .slice p.a1 p.an.out.length p.c1, .slice p.a2 p.an.word.length p.c2] t)) p) : RdPs (w.alloc (.cells #[.int .i64 p.an.kind, .slice p.a1 p.an.out.length p.c1, .slice p.a2 p.an.word.length p.c2] t)) (some ⟨w.heap.size, 0, none⟩) [p] := by
  refine ⟨.inr ⟨w.heap.size, 0, rfl, fun i hi j hj => ?_⟩, fun x hx => ?_⟩
  · obtain rfl : i = 0 := by simpa using hi
    rcases (by omega : j = 0 ∨ j = 1 ∨ j = 2) with rfl | rfl | rfl <;> simp [paC]
  · rw [List.mem_singleton] at hx; subst hx; exact h

theorem smL_self : ∀ l : List An, smL l l = true
  | [] => rfl
  | a :: l => by rw [smL_cons, smL_self l]; simp [smA]

end Go.Proofs.YtagoilabphmdfaaDoor
