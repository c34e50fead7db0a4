/-
  More on slices of whole numbers as lists: one that has an element; a store into one of the call's own.
-/
import Derived.Test.YtdlcbjbcehpooaaSeq
namespace Go.Proofs.Ytdlcbjbcehpooaa
open Go.RowKit

theorem OwnL.pos {q : IntKind} {t : TypeId} {w : World} {B : Nat} {v : Value} {l : List Int} (h : OwnL q t w B v l) (hn : 0 < l.length) :
    ∃ g cap, v = .slice (some ⟨g, 0, none⟩) l.length cap ∧ l.length ≤ cap ∧ cap ≤ maxLen ∧ B ≤ g ∧ g < w.heap.size ∧ (∀ i, i < l.length → w.cell? ⟨g, i, none⟩ = some (.int q (l.getD i 0))) ∧ (∀ i, w.frozen? ⟨g, i, none⟩ = false) := by
  have hlt := World.ownsRow.lt h
  obtain ⟨h1, h2⟩ := id h
  rcases h2 with ⟨rfl, h0⟩ | ⟨g, cap, cur, rfl, hg, hcell, hnc, hm, hs, ht⟩
  · omega
  · refine ⟨g, cap, rfl, hnc, hm, hg, (hlt g rfl).2, fun i hi => ?_, fun i => World.ownsRow.frozenAt h i⟩
    have := World.ownsRow.cellAt h i (by omega)
    rw [map_getD hi] at this
    exact this

theorem OwnL.store {q : IntKind} {t : TypeId} {w : World} {B g cap : Nat} {l : List Int} (h : OwnL q t w B (.slice (some ⟨g, 0, none⟩) l.length cap) l) (j : Nat) (x : Int) :
    OwnL q t (w.setCell ⟨g, j, none⟩ (.int q x)) B (.slice (some ⟨g, 0, none⟩) l.length cap) (l.set j x) := by
  have h1 := World.ownsRow.stored h j (.int q x)
  unfold OwnL
  rw [List.length_set, List.map_set]
  exact h1.1

/-- What is owned stays where its block stays. -/
theorem OwnL.keep {q : IntKind} {t : TypeId} {w w' : World} {B : Nat} {v : Value} {l : List Int} (h : OwnL q t w B v l) (k : ∀ b, v.ownBlock = some b → w'.heap[b]? = w.heap[b]?) : OwnL q t w' B v l := by
  obtain ⟨h1, h2⟩ := h
  refine ⟨h1, ?_⟩
  rcases h2 with h2 | ⟨g, cap, cur, rfl, hg, hcell, rest⟩
  · exact .inl h2
  · exact .inr ⟨g, cap, cur, rfl, hg, by rw [k g rfl]; exact hcell, rest⟩
theorem OwnL.lt {q : IntKind} {t : TypeId} {w : World} {B : Nat} {v : Value} {l : List Int} (h : OwnL q t w B v l) {b : Nat} (e : v.ownBlock = some b) : B ≤ b ∧ b < w.heap.size := World.ownsRow.lt h b e

end Go.Proofs.Ytdlcbjbcehpooaa
