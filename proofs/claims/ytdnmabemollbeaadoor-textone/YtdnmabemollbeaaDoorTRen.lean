/-
  What the program's renumbered returns: the machine of some states, in memory of its own.
-/
import Derived.Test.YtdnmabemollbeaaDoorK7
import Derived.Test.YtdnmabemollbeaaDoorK2
namespace Go.Proofs.YtdnmabemollbeaaDoor
open Go.RowKit Go.Maps

/-- A machine in the making, in block b: its numbers, and its lists' values. -/
structure Mk (w : World) (b : Nat) (kind k o n : Int) (v1 v2 : Value) : Prop where
  c0 : w.cell? ⟨b, 0, none⟩ = some (.int .i64 kind)
  c1 : w.cell? ⟨b, 1, none⟩ = some (.int .i64 k)
  c2 : w.cell? ⟨b, 2, none⟩ = some (.int .i64 o)
  c3 : w.cell? ⟨b, 3, none⟩ = some (.int .i64 n)
  c4 : w.cell? ⟨b, 4, none⟩ = some v1
  c5 : w.cell? ⟨b, 5, none⟩ = some v2
  f4 : w.frozen? ⟨b, 4, none⟩ = false
  f5 : w.frozen? ⟨b, 5, none⟩ = false
theorem Mk.keep {w w' : World} {b : Nat} {kind k o n : Int} {v1 v2 : Value} (h : Mk w b kind k o n v1 v2) (e : w'.heap[b]? = w.heap[b]?) : Mk w' b kind k o n v1 v2 :=
  ⟨(World.cell?_of_block e).trans h.c0, (World.cell?_of_block e).trans h.c1, (World.cell?_of_block e).trans h.c2, (World.cell?_of_block e).trans h.c3, (World.cell?_of_block e).trans h.c4, (World.cell?_of_block e).trans h.c5, by have := h.f4; unfold World.frozen? at this ⊢; rw [e]; exact this, by have := h.f5; unfold World.frozen? at this ⊢; rw [e]; exact this⟩
theorem Mk.set4 {w : World} {b : Nat} {kind k o n : Int} {v1 v2 : Value} (h : Mk w b kind k o n v1 v2) (v : Value) : Mk (w.setCell ⟨b, 4, none⟩ v) b kind k o n v v2 := by
  have ot : ∀ i, i ≠ 4 → (w.setCell ⟨b, 4, none⟩ v).cell? ⟨b, i, none⟩ = w.cell? ⟨b, i, none⟩ := fun i hi => World.cell?_setCell_other (w := w) (a := ⟨b, 4, none⟩) (b := ⟨b, i, none⟩) (v := v) (h := fun e => hi (by injection e with _ e2 _; exact e2.symm))
  exact ⟨(ot 0 (by decide)).trans h.c0, (ot 1 (by decide)).trans h.c1, (ot 2 (by decide)).trans h.c2, (ot 3 (by decide)).trans h.c3, World.cell?_setCell_same _ _ _ h.c4, (ot 5 (by decide)).trans h.c5, by rw [World.frozen?_setCell]; exact h.f4, by rw [World.frozen?_setCell]; exact h.f5⟩
theorem Mk.set5 {w : World} {b : Nat} {kind k o n : Int} {v1 v2 : Value} (h : Mk w b kind k o n v1 v2) (v : Value) : Mk (w.setCell ⟨b, 5, none⟩ v) b kind k o n v1 v := by
  have ot : ∀ i, i ≠ 5 → (w.setCell ⟨b, 5, none⟩ v).cell? ⟨b, i, none⟩ = w.cell? ⟨b, i, none⟩ := fun i hi => World.cell?_setCell_other (w := w) (a := ⟨b, 5, none⟩) (b := ⟨b, i, none⟩) (v := v) (h := fun e => hi (by injection e with _ e2 _; exact e2.symm))
  exact ⟨(ot 0 (by decide)).trans h.c0, (ot 1 (by decide)).trans h.c1, (ot 2 (by decide)).trans h.c2, (ot 3 (by decide)).trans h.c3, (ot 4 (by decide)).trans h.c4, World.cell?_setCell_same _ _ _ h.c5, by rw [World.frozen?_setCell]; exact h.f4, by rw [World.frozen?_setCell]; exact h.f5⟩

/-- What holds on the way: the machine in block b, its lists in memory behind it. -/
structure NInv (m : Mc) (N : Nat) (w w0 wr : World) (b : Nat) (v1 v2 : Value) (A O : List Int) : Prop where
  m0 : Mk wr b m.kind m.k m.o N v1 v2
  o1 : OwnL .i64 3 wr (b + 1) v1 A
  o2 : OwnL .i64 3 wr (b + 1) v2 O
  ap : ∀ j, v1.ownBlock = some j → v2.ownBlock ≠ some j
  b1 : Below w.heap.size w wr
  d1 : Below b w0 wr
  wb : w.heap.size ≤ b
/-- One more number behind the first list. -/
theorem NInv.push1 {m : Mc} {N : Nat} {w w0 wr wq w2 : World} {b : Nat} {v1 v2 v3 : Value} {A O M : List Int} (h : NInv m N w w0 wr b v1 v2 A O) (hq : Below wr.heap.size wr wq) (ho : OwnL .i64 3 w2 (b + 1) v3 (A ++ M)) (hb : Below (b + 1) wq w2) (hg : wq.grownBy w2 v1.ownBlock) (hat : ∀ j, v3.ownBlock = some j → v1.ownBlock = some j ∨ j = wq.heap.size) :
    Mk w2 b m.kind m.k m.o N v1 v2 ∧ NInv m N w w0 (w2.setCell ⟨b, 4, none⟩ v3) b v3 v2 (A ++ M) O := by
  have hbl := World.block_lt_of_cell? wr _ h.m0.c0
  simp only at hbl
  have hz := hq.size
  have K : ∀ j, j < wr.heap.size → v1.ownBlock ≠ some j → w2.heap[j]? = wr.heap[j]? := fun j hj hne => by
    rw [hg.block j (by omega) (fun e => hne e.symm)]; exact hq.block j hj
  have K2 : ∀ j, j ≠ b → (w2.setCell ⟨b, 4, none⟩ v3).heap[j]? = w2.heap[j]? := fun j hj => Below.heap_setCell _ _ _ _ (by simpa using hj)
  have mk2 := h.m0.keep (K b hbl fun e => by have := (h.o1.lt e).1; omega)
  have dq : Below b wr w2 := (hq.mono (by omega)).trans (hb.mono (by omega))
  have wb := h.wb
  refine ⟨mk2, mk2.set4 v3, ho.keep fun j e => K2 j (by have := (ho.lt e).1; omega), ?_, fun j e e2 => ?_, ?_, ?_, h.wb⟩
  · refine (h.o2.keep fun j e => K j (h.o2.lt e).2 fun e2 => h.ap j e2 e).keep fun j e => K2 j (by have := (h.o2.lt e).1; omega)
  · rcases hat j e with e3 | e3
    · exact h.ap j e3 e2
    · have := (h.o2.lt e2).2; omega
  · exact (h.b1.trans (dq.mono wb)).setCell (p := ⟨b, 4, none⟩) wb v3
  · exact (h.d1.trans dq).setCell (p := ⟨b, 4, none⟩) (Nat.le_refl _) v3
theorem NInv.push2 {m : Mc} {N : Nat} {w w0 wr wq w2 : World} {b : Nat} {v1 v2 v3 : Value} {A O M : List Int} (h : NInv m N w w0 wr b v1 v2 A O) (hq : Below wr.heap.size wr wq) (ho : OwnL .i64 3 w2 (b + 1) v3 (O ++ M)) (hb : Below (b + 1) wq w2) (hg : wq.grownBy w2 v2.ownBlock) (hat : ∀ j, v3.ownBlock = some j → v2.ownBlock = some j ∨ j = wq.heap.size) :
    Mk w2 b m.kind m.k m.o N v1 v2 ∧ NInv m N w w0 (w2.setCell ⟨b, 5, none⟩ v3) b v1 v3 A (O ++ M) := by
  have hbl := World.block_lt_of_cell? wr _ h.m0.c0
  simp only at hbl
  have hz := hq.size
  have K : ∀ j, j < wr.heap.size → v2.ownBlock ≠ some j → w2.heap[j]? = wr.heap[j]? := fun j hj hne => by
    rw [hg.block j (by omega) (fun e => hne e.symm)]; exact hq.block j hj
  have K2 : ∀ j, j ≠ b → (w2.setCell ⟨b, 5, none⟩ v3).heap[j]? = w2.heap[j]? := fun j hj => Below.heap_setCell _ _ _ _ (by simpa using hj)
  have mk2 := h.m0.keep (K b hbl fun e => by have := (h.o2.lt e).1; omega)
  have dq : Below b wr w2 := (hq.mono (by omega)).trans (hb.mono (by omega))
  have wb := h.wb
  refine ⟨mk2, mk2.set5 v3, ?_, ho.keep fun j e => K2 j (by have := (ho.lt e).1; omega), fun j e e2 => ?_, ?_, ?_, h.wb⟩
  · refine (h.o1.keep fun j e => K j (h.o1.lt e).2 fun e2 => h.ap j e e2).keep fun j e => K2 j (by have := (h.o1.lt e).1; omega)
  · rcases hat j e2 with e3 | e3
    · exact h.ap j e e3
    · have := (h.o1.lt e).2; omega
  · exact (h.b1.trans (dq.mono wb)).setCell (p := ⟨b, 5, none⟩) wb v3
  · exact (h.d1.trans dq).setCell (p := ⟨b, 5, none⟩) (Nat.le_refl _) v3

/-- What renumbered leaves: the machine r, its lists in memory of their own. -/
def MPost (r : Mc) (w : World) (v : Value) (w' : World) : Prop :=
  ∃ a1 c1 a2 c2, v = mval r a1 c1 a2 c2 ∧ OwnL .i64 3 w' w.heap.size (.slice a1 r.nx.length c1) r.nx ∧ OwnL .i64 3 w' w.heap.size (.slice a2 r.out.length c2) r.out ∧ (∀ j, (Value.slice a1 r.nx.length c1).ownBlock = some j → (Value.slice a2 r.out.length c2).ownBlock ≠ some j) ∧ Below w.heap.size w w'

end Go.Proofs.YtdnmabemollbeaaDoor
