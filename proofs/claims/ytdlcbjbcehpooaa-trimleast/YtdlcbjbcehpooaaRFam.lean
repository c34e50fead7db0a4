/-
  Lists in memory of their own, one more at a time: what holds on the way.
-/
import Derived.Test.YtdlcbjbcehpooaaFam
namespace Go.Proofs.Ytdlcbjbcehpooaa
open Go.RowKit

/-- What the reference's Prefixes and Suffixes leave: N lists that read as they should. -/
def RPost (w : World) (N : Nat) (ns : Nat → Nat) (fs : Nat → Nat → Int) (e : Ending) (w' : World) : Prop :=
  ∃ v vs, e = .returned v ∧ OwnV w' w.heap.size v N vs ∧ Fam w' w.heap.size N vs ns fs ∧ Below w.heap.size w w'
structure RPInv (w : World) (t : Nat) (ns : Nat → Nat) (fs : Nat → Nat → Int) (wr : World) (v : Value) (vs : Nat → Value) : Prop where
  out : OwnV wr w.heap.size v t vs
  fam : Fam wr w.heap.size t vs ns fs
  apart : ∀ b, v.ownBlock = some b → ∀ i, i < t → (vs i).ownBlock ≠ some b
  below : Below w.heap.size w wr
theorem RPInv.fin {w wr : World} {N : Nat} {ns : Nat → Nat} {fs : Nat → Nat → Int} {v : Value} {vs : Nat → Value} (h : RPInv w N ns fs wr v vs) : RPost w N ns fs (.returned v) wr := ⟨v, vs, rfl, h.out, h.fam, h.below⟩
theorem RPInv.step {w wr w2 w4 : World} {t : Nat} {ns : Nat → Nat} {fs : Nat → Nat → Int} {v v' u : Value} {vs : Nat → Value} (h : RPInv w t ns fs wr v vs) (hu : Own w2 wr.heap.size u (ns t) (fs t)) (hb : Below wr.heap.size wr w2) (o : Obj)
    (ho : OwnV w4 w.heap.size v' (t + 1) (joinV t vs fun _ => u)) (hg : (w2.alloc o).grownBy w4 v.ownBlock) (hv : ∀ b, v'.ownBlock = some b → v.ownBlock = some b ∨ (w2.alloc o).heap.size ≤ b) :
    RPInv w (t + 1) ns fs w4 v' (joinV t vs fun _ => u) := by
  have hsz := h.below.size
  have hsz2 := hb.size
  have hA : ∀ b, b < w2.heap.size → some b ≠ v.ownBlock → w4.heap[b]? = w2.heap[b]? := fun b h1 h2 => by
    rw [hg.block b (by simp; omega) h2, Below.heap_alloc _ _ _ h1]
  have hvb : ∀ b, v.ownBlock = some b → w.heap.size ≤ b ∧ b < wr.heap.size := fun b e => h.out.lt e
  have hub : ∀ b, u.ownBlock = some b → wr.heap.size ≤ b ∧ b < w2.heap.size := fun b e => hu.lt e
  have hib : ∀ i, i < t → ∀ b, (vs i).ownBlock = some b → w.heap.size ≤ b ∧ b < wr.heap.size := fun i hi b e => (h.fam.own i hi).lt e
  have F1 : Fam w4 w.heap.size t vs ns fs := (h.fam.below hb).keep fun i hi b e => hA b (by have := hib i hi b e; omega) fun e2 => h.apart b e2.symm i hi e
  have F2 := F1.snoc (u := u) ((hu.base hsz).keep fun b e => hA b (hub b e).2 fun e2 => by have := hub b e; have := hvb b e2.symm; omega) fun i hi b e e2 => by have := hib i hi b e; have := hub b e2; omega
  have hsv : ∀ i, i < t + 1 → setV t u vs i = joinV t vs (fun _ => u) i := fun i hi => by
    by_cases e : i = t
    · subst e; rw [setV_same, joinV_ge (Nat.le_refl _)]
    · rw [setV_ne e, joinV_lt (by omega)]
  refine ⟨ho, ⟨fun i hi => by rw [← hsv i hi]; exact F2.own i hi, fun i j hi hj => by rw [← hsv i hi, ← hsv j hj]; exact F2.apart i j hi hj⟩, fun b e i hi e2 => ?_, ?_⟩
  · rw [← hsv i hi] at e2
    by_cases c : i = t
    · subst c
      rw [setV_same] at e2
      have := hub b e2
      rcases hv b e with h1 | h1
      · have := hvb b h1; omega
      · simp at h1; omega
    · rw [setV_ne c] at e2
      have := hib i (by omega) b e2
      rcases hv b e with h1 | h1
      · exact h.apart b h1 i (by omega) e2
      · simp at h1; omega
  · exact (((h.below.trans (hb.mono hsz)).alloc (by omega) o).grown hg (by simp; omega) fun k e => (hvb k e).1)

end Go.Proofs.Ytdlcbjbcehpooaa
