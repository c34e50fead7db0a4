/-
  Some texts of this seat, one behind the other.
-/
import Derived.Deep.CutRange
import Derived.Test.YtagoilabphmdfaaK2
import Derived.Test.YtagoilabphmdfaaK7
import Derived.Test.YtagoilabphmdfaaK8
/-
  What the program's renumbered returns: the machine of some states, in memory of its own.
-/
namespace Go.Proofs.Ytagoilabphmdfaa
open Go.RowKit Go.Maps

/-- A machine in the making, in block b: its numbers, and its lists' values. -/
structure Mk (w : World) (b : Nat) (kind k o n : Int) (v1 v2 : Value) : Prop where
  c0 : w.cell? ⟨b, 0, none⟩ = some (.int .i64 kind)
  c1 : w.cell? ⟨b, 1, none⟩ = some (.int .i64 k)
  c2 : w.cell? ⟨b, 2, none⟩ = some (.int .i64 o)
  c3 : w.cell? ⟨b, 3, none⟩ = some (.int .i64 n)
  c4 : w.cell? ⟨b, 4, none⟩ = some v1
  c5 : w.cell? ⟨b, 5, none⟩ = some v2
  f4 : w.frozen? ⟨b, 4, none⟩ = false
  f5 : w.frozen? ⟨b, 5, none⟩ = false
theorem Mk.keep {w w' : World} {b : Nat} {kind k o n : Int} {v1 v2 : Value} (h : Mk w b kind k o n v1 v2) (e : w'.heap[b]? = w.heap[b]?) : Mk w' b kind k o n v1 v2 :=
  ⟨(World.cell?_of_block e).trans h.c0, (World.cell?_of_block e).trans h.c1, (World.cell?_of_block e).trans h.c2, (World.cell?_of_block e).trans h.c3, (World.cell?_of_block e).trans h.c4, (World.cell?_of_block e).trans h.c5, by have := h.f4; unfold World.frozen? at this ⊢; rw [e]; exact this, by have := h.f5; unfold World.frozen? at this ⊢; rw [e]; exact this⟩
theorem Mk.set4 {w : World} {b : Nat} {kind k o n : Int} {v1 v2 : Value} (h : Mk w b kind k o n v1 v2) (v : Value) : Mk (w.setCell ⟨b, 4, none⟩ v) b kind k o n v v2 := by
  have ot : ∀ i, i ≠ 4 → (w.setCell ⟨b, 4, none⟩ v).cell? ⟨b, i, none⟩ = w.cell? ⟨b, i, none⟩ := fun i hi => World.cell?_setCell_other (w := w) (a := ⟨b, 4, none⟩) (b := ⟨b, i, none⟩) (v := v) (h := fun e => hi (by injection e with _ e2 _; exact e2.symm))
  exact ⟨(ot 0 (by decide)).trans h.c0, (ot 1 (by decide)).trans h.c1, (ot 2 (by decide)).trans h.c2, (ot 3 (by decide)).trans h.c3, World.cell?_setCell_same _ _ _ h.c4, (ot 5 (by decide)).trans h.c5, by rw [World.frozen?_setCell]; exact h.f4, by rw [World.frozen?_setCell]; exact h.f5⟩
theorem Mk.set5 {w : World} {b : Nat} {kind k o n : Int} {v1 v2 : Value} (h : Mk w b kind k o n v1 v2) (v : Value) : Mk (w.setCell ⟨b, 5, none⟩ v) b kind k o n v1 v := by
  have ot : ∀ i, i ≠ 5 → (w.setCell ⟨b, 5, none⟩ v).cell? ⟨b, i, none⟩ = w.cell? ⟨b, i, none⟩ := fun i hi => World.cell?_setCell_other (w := w) (a := ⟨b, 5, none⟩) (b := ⟨b, i, none⟩) (v := v) (h := fun e => hi (by injection e with _ e2 _; exact e2.symm))
  exact ⟨(ot 0 (by decide)).trans h.c0, (ot 1 (by decide)).trans h.c1, (ot 2 (by decide)).trans h.c2, (ot 3 (by decide)).trans h.c3, (ot 4 (by decide)).trans h.c4, World.cell?_setCell_same _ _ _ h.c5, by rw [World.frozen?_setCell]; exact h.f4, by rw [World.frozen?_setCell]; exact h.f5⟩

/-- What holds on the way: the machine in block b, its lists in memory behind it. -/
structure NInv (m : Mc) (N : Nat) (w w0 wr : World) (b : Nat) (v1 v2 : Value) (A O : List Int) : Prop where
  m0 : Mk wr b m.kind m.k m.o N v1 v2
  o1 : OwnL .i64 3 wr (b + 1) v1 A
  o2 : OwnL .i64 3 wr (b + 1) v2 O
  ap : ∀ j, v1.ownBlock = some j → v2.ownBlock ≠ some j
  b1 : Below w.heap.size w wr
  d1 : Below b w0 wr
  wb : w.heap.size ≤ b
/-- One more number behind the first list. -/
theorem NInv.push1 {m : Mc} {N : Nat} {w w0 wr wq w2 : World} {b : Nat} {v1 v2 v3 : Value} {A O M : List Int} (h : NInv m N w w0 wr b v1 v2 A O) (hq : Below wr.heap.size wr wq) (ho : OwnL .i64 3 w2 (b + 1) v3 (A ++ M)) (hb : Below (b + 1) wq w2) (hg : wq.grownBy w2 v1.ownBlock) (hat : ∀ j, v3.ownBlock = some j → v1.ownBlock = some j ∨ j = wq.heap.size) :
    Mk w2 b m.kind m.k m.o N v1 v2 ∧ NInv m N w w0 (w2.setCell ⟨b, 4, none⟩ v3) b v3 v2 (A ++ M) O := by
  have hbl := World.block_lt_of_cell? wr _ h.m0.c0
  simp only at hbl
  have hz := hq.size
  have K : ∀ j, j < wr.heap.size → v1.ownBlock ≠ some j → w2.heap[j]? = wr.heap[j]? := fun j hj hne => by
    rw [hg.block j (by omega) (fun e => hne e.symm)]; exact hq.block j hj
  have K2 : ∀ j, j ≠ b → (w2.setCell ⟨b, 4, none⟩ v3).heap[j]? = w2.heap[j]? := fun j hj => Below.heap_setCell _ _ _ _ (by simpa using hj)
  have mk2 := h.m0.keep (K b hbl fun e => by have := (h.o1.lt e).1; omega)
  have dq : Below b wr w2 := (hq.mono (by omega)).trans (hb.mono (by omega))
  have wb := h.wb
  refine ⟨mk2, mk2.set4 v3, ho.keep fun j e => K2 j (by have := (ho.lt e).1; omega), ?_, fun j e e2 => ?_, ?_, ?_, h.wb⟩
  · refine (h.o2.keep fun j e => K j (h.o2.lt e).2 fun e2 => h.ap j e2 e).keep fun j e => K2 j (by have := (h.o2.lt e).1; omega)
  · rcases hat j e with e3 | e3
    · exact h.ap j e3 e2
    · have := (h.o2.lt e2).2; omega
  · exact (h.b1.trans (dq.mono wb)).setCell (p := ⟨b, 4, none⟩) wb v3
  · exact (h.d1.trans dq).setCell (p := ⟨b, 4, none⟩) (Nat.le_refl _) v3
theorem NInv.push2 {m : Mc} {N : Nat} {w w0 wr wq w2 : World} {b : Nat} {v1 v2 v3 : Value} {A O M : List Int} (h : NInv m N w w0 wr b v1 v2 A O) (hq : Below wr.heap.size wr wq) (ho : OwnL .i64 3 w2 (b + 1) v3 (O ++ M)) (hb : Below (b + 1) wq w2) (hg : wq.grownBy w2 v2.ownBlock) (hat : ∀ j, v3.ownBlock = some j → v2.ownBlock = some j ∨ j = wq.heap.size) :
    Mk w2 b m.kind m.k m.o N v1 v2 ∧ NInv m N w w0 (w2.setCell ⟨b, 5, none⟩ v3) b v1 v3 A (O ++ M) := by
  have hbl := World.block_lt_of_cell? wr _ h.m0.c0
  simp only at hbl
  have hz := hq.size
  have K : ∀ j, j < wr.heap.size → v2.ownBlock ≠ some j → w2.heap[j]? = wr.heap[j]? := fun j hj hne => by
    rw [hg.block j (by omega) (fun e => hne e.symm)]; exact hq.block j hj
  have K2 : ∀ j, j ≠ b → (w2.setCell ⟨b, 5, none⟩ v3).heap[j]? = w2.heap[j]? := fun j hj => Below.heap_setCell _ _ _ _ (by simpa using hj)
  have mk2 := h.m0.keep (K b hbl fun e => by have := (h.o2.lt e).1; omega)
  have dq : Below b wr w2 := (hq.mono (by omega)).trans (hb.mono (by omega))
  have wb := h.wb
  refine ⟨mk2, mk2.set5 v3, ?_, ho.keep fun j e => K2 j (by have := (ho.lt e).1; omega), fun j e e2 => ?_, ?_, ?_, h.wb⟩
  · refine (h.o1.keep fun j e => K j (h.o1.lt e).2 fun e2 => h.ap j e e2).keep fun j e => K2 j (by have := (h.o1.lt e).1; omega)
  · rcases hat j e2 with e3 | e3
    · exact h.ap j e e3
    · have := (h.o1.lt e).2; omega
  · exact (h.b1.trans (dq.mono wb)).setCell (p := ⟨b, 5, none⟩) wb v3
  · exact (h.d1.trans dq).setCell (p := ⟨b, 5, none⟩) (Nat.le_refl _) v3

/-- What renumbered leaves: the machine r, its lists in memory of their own. -/
def MPost (r : Mc) (w : World) (v : Value) (w' : World) : Prop :=
  ∃ a1 c1 a2 c2, v = mval r a1 c1 a2 c2 ∧ OwnL .i64 3 w' w.heap.size (.slice a1 r.nx.length c1) r.nx ∧ OwnL .i64 3 w' w.heap.size (.slice a2 r.out.length c2) r.out ∧ (∀ j, (Value.slice a1 r.nx.length c1).ownBlock = some j → (Value.slice a2 r.out.length c2).ownBlock ≠ some j) ∧ Below w.heap.size w w'

end Go.Proofs.Ytagoilabphmdfaa

/-
  What the program's Canon and Turn return, for every table and list.
-/
namespace Go.Proofs.Ytagoilabphmdfaa
open Go.RowKit Go.Maps

/-- Canon, as the document has it: the machine and the error. -/
def cnV (m : Mc) : Mc × Int := if (mchV m).2 ≠ 0 then (mc0, (mchV m).2) else (canM m, 0)
theorem cnV_err {m : Mc} (h : (mchV m).2 ≠ 0) : cnV m = (mc0, (mchV m).2) := by unfold cnV; rw [if_pos h]
theorem cnV_ok {m : Mc} (h : (mchV m).2 = 0) : cnV m = (canM m, 0) := by unfold cnV; rw [if_neg (by simp [h])]

/-- What Canon and Turn leave. -/
def CPost (r : Mc × Int) (w : World) (e : Ending) (w' : World) : Prop :=
  ∃ a1 c1 a2 c2, e = .returned (.tuple #[mval r.1 a1 c1 a2 c2, .int .i64 r.2]) ∧ OwnL .i64 3 w' w.heap.size (.slice a1 r.1.nx.length c1) r.1.nx ∧ OwnL .i64 3 w' w.heap.size (.slice a2 r.1.out.length c2) r.1.out ∧ (∀ j, (Value.slice a1 r.1.nx.length c1).ownBlock = some j → (Value.slice a2 r.1.out.length c2).ownBlock ≠ some j) ∧ Below w.heap.size w w'

theorem zero_post (x : Int) {w w' : World} (h : Below w.heap.size w w') : CPost (mc0, x) w (.returned (.tuple #[mval mc0 none 0 none 0, .int .i64 x])) w' :=
  ⟨none, 0, none, 0, rfl, OwnL.nil _ _ _ _, OwnL.nil _ _ _ _, (fun j e => by cases e), h⟩

/-- The world in which block b's six cells were written. -/
def six (w : World) (b : Nat) (m : Mc) (d1 : Option Addr) (e1 : Nat) (d2 : Option Addr) (e2 : Nat) : World :=
  ((((((w.setCell ⟨b, 0, none⟩ (.int .i64 m.kind)).setCell ⟨b, 1, none⟩ (.int .i64 m.k)).setCell ⟨b, 2, none⟩ (.int .i64 m.o)).setCell ⟨b, 3, none⟩ (.int .i64 m.n)).setCell ⟨b, 4, none⟩ (.slice d1 m.nx.length e1)).setCell ⟨b, 5, none⟩ (.slice d2 m.out.length e2))
theorem six_heap (w : World) {b : Nat} (m : Mc) (d1 : Option Addr) (e1 : Nat) (d2 : Option Addr) (e2 : Nat) {j : Nat} (hj : j ≠ b) : (six w b m d1 e1 d2 e2).heap[j]? = w.heap[j]? := by
  unfold six
  rw [Below.heap_setCell _ _ _ _ (by simpa using hj), Below.heap_setCell _ _ _ _ (by simpa using hj), Below.heap_setCell _ _ _ _ (by simpa using hj), Below.heap_setCell _ _ _ _ (by simpa using hj), Below.heap_setCell _ _ _ _ (by simpa using hj), Below.heap_setCell _ _ _ _ (by simpa using hj)]
theorem six_below {w w1 : World} {B b : Nat} (h : Below B w w1) (hb : B ≤ b) (m : Mc) (d1 : Option Addr) (e1 : Nat) (d2 : Option Addr) (e2 : Nat) : Below B w (six w1 b m d1 e1 d2 e2) :=
  (((((h.setCell (p := ⟨b, 0, none⟩) hb _).setCell (p := ⟨b, 1, none⟩) hb _).setCell (p := ⟨b, 2, none⟩) hb _).setCell (p := ⟨b, 3, none⟩) hb _).setCell (p := ⟨b, 4, none⟩) hb _).setCell (p := ⟨b, 5, none⟩) hb _

end Go.Proofs.Ytagoilabphmdfaa

/-
  What the reference's pick returns: the machine of some states, in memory of its own.
-/
namespace Go.Proofs.Ytagoilabphmdfaa
open Go.RowKit Go.Maps

/-- What s has said by its first n symbols, in the making. -/
def tl (m : Mc) (s : Int) (n : Nat) : List Int := if m.kind = 2 then rowO m s n else []
theorem tl_two {m : Mc} (h : m.kind = 2) (s : Int) (n : Nat) : tl m s n = rowO m s n := if_pos h
theorem tl_one {m : Mc} (h : ¬ m.kind = 2) (s : Int) (n : Nat) : tl m s n = [] := if_neg h

end Go.Proofs.Ytagoilabphmdfaa

/-
  What the reference's Reach returns, for every table: what the program's does.
-/
namespace Go.Proofs.Ytagoilabphmdfaa
open Go.RowKit Go.Maps

theorem ob {g off n c b : Nat} (e : (Value.slice (some ⟨g, off, none⟩) n c).ownBlock = some b) : g = b := Option.some.inj e

end Go.Proofs.Ytagoilabphmdfaa

/-
  What the reference's Canon returns, for every table: what the program's does.
-/
namespace Go.Proofs.Ytagoilabphmdfaa
open Go.RowKit Go.Maps

theorem list_made {w : World} {B n : Nat} {v : Value} {f : Nat → Int} (h : Own w B v n f) : OwnL .i64 3 w B v ((List.range n).map f) := by
  unfold OwnL
  have e : ((List.range n).map f).map (Value.int .i64) = cellsOf n f := by unfold cellsOf; rw [List.map_map]; rfl
  rw [e, List.length_map, List.length_range]
  exact h
/-- pl says of the first i of S their places. -/
def Placed (S pl : List Int) (i : Nat) : Prop := ∀ q, q < i → pl.getD (S.getD q 0).toNat 0 = (q : Int)
theorem Placed.next {S pl : List Int} {i s : Nat} (h : Placed S pl i) (hd : S.Nodup) (hr : ∀ p, p < S.length → 0 ≤ S.getD p 0) (hi : i < S.length) (es : S.getD i 0 = (s : Int)) (hs : s < pl.length) : Placed S (pl.set s (i : Int)) (i + 1) := fun q hq => by
  have hrq := hr q (by omega)
  by_cases e : q = i
  · subst e
    rw [es, Int.toNat_natCast]
    simp [List.getD, hs]
  · have hne : s ≠ (S.getD q 0).toNat := fun e2 => e (nd_inj hd (by omega) hi (by rw [es]; omega))
    have h1 := h q (by omega)
    generalize (S.getD q 0).toNat = z at *
    simp only [List.getD] at h1 ⊢
    rw [List.getElem?_set_ne hne]
    exact h1
theorem placed_can {m : Mc} (R : Right m) {pl : List Int} (h : Placed (rchV m).1 pl (rchV m).1.length) : pickV m (rchV m).1 (fun t => pl.getD t.toNat 0) = canM m := by
  unfold canM
  refine pickV_congr fun s hs y hy => ?_
  have h1 := rch_closed R hs hy
  obtain ⟨h2, h3⟩ := idx_get h1
  have := h _ h2
  rw [h3] at this
  exact this

end Go.Proofs.Ytagoilabphmdfaa

/-
  Minimise, in plain words: the machine and the error.
-/
namespace Go.Proofs.Ytagoilabphmdfaa
open Go.RowKit Go.Maps

/-- Minimise, as the document has it: the machine and the error. -/
def mnV (m : Mc) : Mc × Int := if (mchV m).2 ≠ 0 then (mc0, (mchV m).2) else (minM m, 0)
theorem mnV_err {m : Mc} (h : (mchV m).2 ≠ 0) : mnV m = (mc0, (mchV m).2) := by unfold mnV; rw [if_pos h]
theorem mnV_ok {m : Mc} (h : (mchV m).2 = 0) : mnV m = (minM m, 0) := by unfold mnV; rw [if_neg (by simp [h])]
theorem cnV_quo {m : Mc} (F : Full m) : cnV (quoM m) = (minM m, 0) := cnV_ok (mch_full (full_quo F))

end Go.Proofs.Ytagoilabphmdfaa
