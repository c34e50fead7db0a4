/-
  The machine of the classes in the making: its object, its two lists, the number of states.
-/
import Derived.Test.YtdnmabemollbeaaDoorK15
import Derived.Test.YtdnmabemollbeaaDoorK1
import Derived.Test.YtdnmabemollbeaaDoorK8
import Derived.Test.YtdnmabemollbeaaDoorK21
namespace Go.Proofs.YtdnmabemollbeaaDoor
open Go.RowKit Go.Maps

theorem Mk.set3 {w : World} {b : Nat} {kind k o n : Int} {v1 v2 : Value} (h : Mk w b kind k o n v1 v2) (z : Int) : Mk (w.setCell ⟨b, 3, none⟩ (.int .i64 z)) b kind k o z v1 v2 := by
  have ot : ∀ i, i ≠ 3 → (w.setCell ⟨b, 3, none⟩ (.int .i64 z)).cell? ⟨b, i, none⟩ = w.cell? ⟨b, i, none⟩ := fun i hi => World.cell?_setCell_other (w := w) (a := ⟨b, 3, none⟩) (b := ⟨b, i, none⟩) (v := .int .i64 z) (h := fun e => hi (by injection e with _ e2 _; exact e2.symm))
  exact ⟨(ot 0 (by decide)).trans h.c0, (ot 1 (by decide)).trans h.c1, (ot 2 (by decide)).trans h.c2, World.cell?_setCell_same _ _ _ h.c3, (ot 4 (by decide)).trans h.c4, (ot 5 (by decide)).trans h.c5, by rw [World.frozen?_setCell]; exact h.f4, by rw [World.frozen?_setCell]; exact h.f5⟩
/-- One state more. -/
theorem NInv.more {m : Mc} {N : Nat} {w w0 wr : World} {b : Nat} {v1 v2 : Value} {A O : List Int} (h : NInv m N w w0 wr b v1 v2 A O) : NInv m (N + 1) w w0 (wr.setCell ⟨b, 3, none⟩ (.int .i64 ((N + 1 : Nat) : Int))) b v1 v2 A O := by
  have K2 : ∀ j, j ≠ b → (wr.setCell ⟨b, 3, none⟩ (.int .i64 ((N + 1 : Nat) : Int))).heap[j]? = wr.heap[j]? := fun j hj => Below.heap_setCell _ _ _ _ (by simpa using hj)
  exact ⟨h.m0.set3 _, h.o1.keep fun j e => K2 j (by have := (h.o1.lt e).1; omega), h.o2.keep fun j e => K2 j (by have := (h.o2.lt e).1; omega), h.ap, h.b1.setCell (p := ⟨b, 3, none⟩) h.wb _, h.d1.setCell (p := ⟨b, 3, none⟩) (Nat.le_refl _) _, h.wb⟩
theorem NInv.blk {m : Mc} {N : Nat} {w w0 wr wq w2 : World} {b : Nat} {v1 v2 u : Value} {A O : List Int} (h : NInv m N w w0 wr b v1 v2 A O) (hu : u = v1 ∨ u = v2) (hq : Below wr.heap.size wr wq) (hg : wq.grownBy w2 u.ownBlock) : w2.heap[b]? = wr.heap[b]? := by
  have hbl := World.block_lt_of_cell? wr _ h.m0.c0
  simp only at hbl
  have hz := hq.size
  rw [hg.block b (by omega) (fun e => by
    rcases hu with rfl | rfl
    · have := (h.o1.lt e.symm).1; omega
    · have := (h.o2.lt e.symm).1; omega)]
  exact hq.block b hbl
/-- The same, and the number of states may be written. -/
structure QInv (m : Mc) (N : Nat) (w w0 wr : World) (b : Nat) (v1 v2 : Value) (A O : List Int) : Prop where
  n : NInv m N w w0 wr b v1 v2 A O
  f3 : wr.frozen? ⟨b, 3, none⟩ = false
theorem QInv.push1 {m : Mc} {N : Nat} {w w0 wr wq w2 : World} {b : Nat} {v1 v2 v3 : Value} {A O M : List Int} (h : QInv m N w w0 wr b v1 v2 A O) (hq : Below wr.heap.size wr wq) (ho : OwnL .i64 3 w2 (b + 1) v3 (A ++ M)) (hb : Below (b + 1) wq w2) (hg : wq.grownBy w2 v1.ownBlock) (hat : ∀ j, v3.ownBlock = some j → v1.ownBlock = some j ∨ j = wq.heap.size) :
    Mk w2 b m.kind m.k m.o N v1 v2 ∧ QInv m N w w0 (w2.setCell ⟨b, 4, none⟩ v3) b v3 v2 (A ++ M) O := by
  obtain ⟨r1, r2⟩ := h.n.push1 hq ho hb hg hat
  have e := h.n.blk (.inl rfl) hq hg
  exact ⟨r1, r2, by rw [World.frozen?_setCell]; exact (World.frozen?_of_block e).trans h.f3⟩
theorem QInv.push2 {m : Mc} {N : Nat} {w w0 wr wq w2 : World} {b : Nat} {v1 v2 v3 : Value} {A O M : List Int} (h : QInv m N w w0 wr b v1 v2 A O) (hq : Below wr.heap.size wr wq) (ho : OwnL .i64 3 w2 (b + 1) v3 (O ++ M)) (hb : Below (b + 1) wq w2) (hg : wq.grownBy w2 v2.ownBlock) (hat : ∀ j, v3.ownBlock = some j → v2.ownBlock = some j ∨ j = wq.heap.size) :
    (Mk w2 b m.kind m.k m.o N v1 v2 ∧ w2.frozen? ⟨b, 3, none⟩ = false) ∧ QInv m N w w0 (w2.setCell ⟨b, 5, none⟩ v3) b v1 v3 A (O ++ M) := by
  obtain ⟨r1, r2⟩ := h.n.push2 hq ho hb hg hat
  have e := (World.frozen?_of_block (a := ⟨b, 3, none⟩) (h.n.blk (.inr rfl) hq hg)).trans h.f3
  exact ⟨⟨r1, e⟩, r2, by rw [World.frozen?_setCell]; exact e⟩
theorem QInv.more {m : Mc} {N : Nat} {w w0 wr : World} {b : Nat} {v1 v2 : Value} {A O : List Int} (h : QInv m N w w0 wr b v1 v2 A O) : QInv m (N + 1) w w0 (wr.setCell ⟨b, 3, none⟩ (.int .i64 ((N + 1 : Nat) : Int))) b v1 v2 A O :=
  ⟨h.n.more, by rw [World.frozen?_setCell]; exact h.f3⟩
def clR (m : Mc) : Nat → Nat → Bool := alkR m (rdV m)
theorem clR_eqv (m : Mc) : Eqv (clR m) m.n.toNat := alk_eqv m (rdV m) m.n.toNat
theorem quo_eq (m : Mc) : quoM m = pickV m (reps (clR m) m.n.toNat) (clM m) := rfl
theorem reps_new {R : Nat → Nat → Bool} {s : Nat} (h : first (R s) s = none) : reps R (s + 1) = reps R s ++ [(s : Int)] := by show (if _ then _ else _) = _; rw [if_pos h]
theorem reps_old {R : Nat → Nat → Bool} {s : Nat} (h : first (R s) s ≠ none) : reps R (s + 1) = reps R s := by show (if _ then _ else _) = _; rw [if_neg h]
theorem nc_new {R : Nat → Nat → Bool} {s : Nat} (h : first (R s) s = none) : nc R (s + 1) = nc R s + 1 := by show nc R s + _ = _; rw [if_pos h]
theorem nc_old {R : Nat → Nat → Bool} {s : Nat} (h : first (R s) s ≠ none) : nc R (s + 1) = nc R s := by show nc R s + _ = _; rw [if_neg h]; rfl
/-- A state that is not the first of its class has a smaller number. -/
theorem cl_old {R : Nat → Nat → Bool} {N : Nat} (E : Eqv R N) {s : Nat} (hs : s < N) (h : first (R s) s ≠ none) : cl R s < (nc R s : Nat) := by
  rcases first_cases (R s) s with ⟨e, _⟩ | ⟨r, e, hr, _, _⟩
  · exact absurd e h
  · rw [cl_some e hr]
    exact (cl_range (N := s) ⟨fun a ha => E.refl a (by omega), fun a b ha hb => E.symm a b (by omega) (by omega), fun a b c ha hb hc => E.trans a b c (by omega) (by omega) (by omega)⟩ hr).2

end Go.Proofs.YtdnmabemollbeaaDoor
