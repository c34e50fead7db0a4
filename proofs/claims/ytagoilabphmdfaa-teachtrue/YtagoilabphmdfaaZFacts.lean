/-
  A machine's zeroed cells.
-/
import Derived.Test.YtagoilabphmdfaaK6
import Derived.Test.YtagoilabphmdfaaK21
namespace Go.Proofs.Ytagoilabphmdfaa
open Go.RowKit

abbrev zO : Obj := .cells #[.int .i64 0, .int .i64 0, .int .i64 0, .int .i64 0, .slice none 0 0, .slice none 0 0] 24
theorem zfacts {w : World} {b : Nat} (h : w.heap[b]? = some zO) :
    (w.cell? ⟨b, 0, none⟩ = some (.int .i64 0) ∧ w.cell? ⟨b, 1, none⟩ = some (.int .i64 0) ∧ w.cell? ⟨b, 2, none⟩ = some (.int .i64 0) ∧ w.cell? ⟨b, 3, none⟩ = some (.int .i64 0) ∧ w.cell? ⟨b, 4, none⟩ = some (.slice none 0 0) ∧ w.cell? ⟨b, 5, none⟩ = some (.slice none 0 0)) ∧ w.frozen? ⟨b, 0, none⟩ = false ∧ w.frozen? ⟨b, 1, none⟩ = false ∧ w.frozen? ⟨b, 2, none⟩ = false ∧ w.frozen? ⟨b, 3, none⟩ = false ∧ w.frozen? ⟨b, 4, none⟩ = false ∧ w.frozen? ⟨b, 5, none⟩ = false := by
  unfold World.cell? World.frozen?
  rw [h]
  exact ⟨⟨rfl, rfl, rfl, rfl, rfl, rfl⟩, rfl, rfl, rfl, rfl, rfl, rfl⟩
theorem zbox {w : World} {b : Nat} (h : w.heap[b]? = some zO) : Box w b mc0 none 0 none 0 := by
  obtain ⟨⟨h0, h1, h2, h3, h4, h5⟩, _⟩ := zfacts h
  exact ⟨h0, h1, h2, h3, h4, h5⟩
theorem zn1 (w : World) : (w.alloc zO).heap[w.heap.size]? = some zO := heap_alloc_new w zO
theorem zn2 (w : World) : ((w.alloc zO).alloc zO).heap[w.heap.size]? = some zO := (Below.heap_alloc _ _ _ (by simp)).trans (zn1 w)
theorem zn3 (w : World) : ((w.alloc zO).alloc zO).heap[w.heap.size + 1]? = some zO := by
  have := heap_alloc_new (w.alloc zO) zO
  rw [World.size_alloc] at this
  exact this
end Go.Proofs.Ytagoilabphmdfaa
