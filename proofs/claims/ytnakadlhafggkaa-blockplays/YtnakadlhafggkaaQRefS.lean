/-
  What the reference's Split returns: the document's split, class by class.
-/
import Derived.Test.YtnakadlhafggkaaQRef
import Derived.Test.YtnakadlhafggkaaQSplitA
import Derived.Test.YtnakadlhafggkaaUPart
import Derived.Deep.RegionLaw
import Derived.Deep.CutRange
namespace Go.Proofs.Ytnakadlhafggkaa
open Go.RowKit Go.Maps

/-- Of the first j: has class c one in l, one that is not? -/
def inTo (C l : List Int) (c : Int) (j : Nat) : Bool := (List.range j).any fun i => C.getD i 0 == c && inB l i
def ouTo (C l : List Int) (c : Int) (j : Nat) : Bool := (List.range j).any fun i => C.getD i 0 == c && !inB l i
theorem inTo_next (C l : List Int) (c : Int) (j : Nat) : inTo C l c (j + 1) = (inTo C l c j || (C.getD j 0 == c && inB l j)) := by unfold inTo; rw [List.range_succ, List.any_append]; simp
theorem ouTo_next (C l : List Int) (c : Int) (j : Nat) : ouTo C l c (j + 1) = (ouTo C l c j || (C.getD j 0 == c && !inB l j)) := by unfold ouTo; rw [List.range_succ, List.any_append]; simp
theorem mix_to (C l : List Int) (c : Int) : mixB C l c = (inTo C l c C.length && ouTo C l c C.length) := rfl
/-- Class c is being split: the first j are done. -/
def spP (C l : List Int) (N c j : Nat) : List Int := (List.range C.length).map fun x => if x < j then spTo C l N (c + 1) x else spTo C l N c x
theorem spP_len (C l : List Int) (N c j : Nat) : (spP C l N c j).length = C.length := by simp [spP]
theorem spP_zero (C l : List Int) (N c : Nat) : spP C l N c 0 = spC C l N c := by unfold spP spC; simp
theorem spP_all (C l : List Int) (N c : Nat) : spP C l N c C.length = spC C l N (c + 1) := by
  unfold spP spC
  apply List.map_congr_left
  intro x hx
  rw [if_pos (List.mem_range.1 hx)]
theorem spP_next {C l : List Int} {N c j : Nat} (h : j < C.length) : spP C l N c (j + 1) = (spP C l N c j).set j (spTo C l N (c + 1) j) := by
  refine List.ext_getElem? fun i => ?_
  rw [List.getElem?_set]
  by_cases e : j = i
  · subst e; simp [spP, h]
  · rw [if_neg e]
    by_cases hi : i < C.length
    · have : (i < j + 1) ↔ (i < j) := by omega
      simp [spP, hi, this]
    · rw [List.getElem?_eq_none (by rw [spP_len]; omega), List.getElem?_eq_none (by rw [spP_len]; omega)]
theorem spP_same {C l : List Int} {N c j : Nat} (h : j < C.length) (e : spTo C l N (c + 1) j = spTo C l N c j) : spP C l N c (j + 1) = spP C l N c j := by
  rw [spP_next h]
  refine List.ext_getElem? fun i => ?_
  rw [List.getElem?_set]
  by_cases f : j = i
  · subst f; simp [spP, h, e]
  · rw [if_neg f]
theorem spC_no {C l : List Int} {N c : Nat} (h : mixB C l (c : Int) = false) : spC C l N (c + 1) = spC C l N c := by
  unfold spC
  apply List.map_congr_left
  intro x _
  exact spTo_no h
theorem spC_zero {C l : List Int} {N : Nat} (h : ∀ i, i < C.length → 0 ≤ C.getD i 0) : spC C l N 0 = C := by
  refine List.ext_getElem? fun i => ?_
  by_cases hi : i < C.length
  · have h1 := spC_at (l := l) (N := N) (c := 0) hi
    rw [spTo_zero (h i hi)] at h1
    simp only [List.getD] at h1
    rw [List.getElem?_eq_getElem (by rw [spC_len]; exact hi), List.getElem?_eq_getElem hi] at h1 ⊢
    simpa using h1
  · rw [List.getElem?_eq_none (by rw [spC_len]; omega), List.getElem?_eq_none (by omega)]

/-- The part that is being made: its cells, its classes. -/
structure RS (W1 wx : World) (b : Nat) (v : Value) (C : List Int) (M : Nat) : Prop where
  c0 : wx.cell? ⟨b, 0, none⟩ = some v
  c1 : wx.cell? ⟨b, 1, none⟩ = some (.int .i64 (M : Nat))
  f1 : wx.frozen? ⟨b, 1, none⟩ = false
  own : OwnL .i64 3 wx W1.heap.size v C
  vb : v.ownBlock ≠ some b
  lo : W1.heap.size ≤ b
  bl : Below W1.heap.size W1 wx

theorem RS.keep {W1 wx w' : World} {b : Nat} {v : Value} {C : List Int} {M : Nat} (h : RS W1 wx b v C M) (kb : w'.heap[b]? = wx.heap[b]?) (kv : ∀ i, v.ownBlock = some i → w'.heap[i]? = wx.heap[i]?) (bl : Below W1.heap.size W1 w') : RS W1 w' b v C M :=
  ⟨(World.cell?_of_block kb).trans h.c0, (World.cell?_of_block kb).trans h.c1, (World.frozen?_of_block kb).trans h.f1, h.own.keep kv, h.vb, h.lo, bl⟩
/-- .. with the list of the new classes. -/
structure RI (W1 wx : World) (b : Nat) (v u : Value) (C M : List Int) (K : Nat) : Prop where
  rs : RS W1 wx b v C K
  made : OwnL .i64 3 wx W1.heap.size u M
  ub : u.ownBlock ≠ some b
  uv : ∀ i, u.ownBlock = some i → v.ownBlock ≠ some i


section
variable {W1 wx : World} {b : Nat} {v u : Value} {C M : List Int} {K : Nat}
theorem RS.mkA {w2 : World} {N : Nat} (ho : OwnL .i64 3 w2 W1.heap.size v C) (bl : Below W1.heap.size W1 w2) : RS W1 (w2.alloc (.cells #[v, .int .i64 (N : Nat)] 31)) w2.heap.size v C N := by
  have hz := bl.size
  refine ⟨by simp, by simp, by simp, ho.alloc _, fun e => ?_, hz, bl.alloc hz _⟩
  have := (ho.lt e).2
  omega
theorem RS.mkB {w2 : World} {N sb : Nat} (ho : OwnL .i64 3 w2 W1.heap.size v C) (bl : Below W1.heap.size W1 w2) {x y : Value} (s0 : w2.cell? ⟨sb, 0, none⟩ = some x) (s1 : w2.cell? ⟨sb, 1, none⟩ = some y) (t1 : w2.frozen? ⟨sb, 1, none⟩ = false) (hne : v.ownBlock ≠ some sb) (lo : W1.heap.size ≤ sb) :
    RS W1 ((w2.setCell ⟨sb, 0, none⟩ v).setCell ⟨sb, 1, none⟩ (.int .i64 (N : Nat))) sb v C N := by
  have K : ∀ j, j ≠ sb → ((w2.setCell ⟨sb, 0, none⟩ v).setCell ⟨sb, 1, none⟩ (.int .i64 (N : Nat))).heap[j]? = w2.heap[j]? := fun j hj => by
    rw [Below.heap_setCell _ _ _ _ (by simpa using hj), Below.heap_setCell _ _ _ _ (by simpa using hj)]
  refine ⟨?_, ?_, by rw [World.frozen?_setCell, World.frozen?_setCell]; exact t1, ho.keep fun i e => K i (fun e2 => hne (e2 ▸ e)), hne, lo, (bl.setCell (p := ⟨sb, 0, none⟩) lo _).setCell (p := ⟨sb, 1, none⟩) lo _⟩
  · rw [World.cell?_setCell_other (a := ⟨sb, 1, none⟩) (b := ⟨sb, 0, none⟩) (h := fun e => by cases e)]; exact World.cell?_setCell_same _ _ _ s0
  · refine World.cell?_setCell_same _ _ _ (u := y) ?_
    rw [World.cell?_setCell_other (a := ⟨sb, 0, none⟩) (b := ⟨sb, 1, none⟩) (h := fun e => by cases e)]; exact s1
theorem RI.store {g cap : Nat} (h : RI W1 wx b (.slice (some ⟨g, 0, none⟩) C.length cap) u C M K) (j : Nat) (x : Int) : RI W1 (wx.setCell ⟨g, j, none⟩ (.int .i64 x)) b (.slice (some ⟨g, 0, none⟩) C.length cap) u (C.set j x) M K := by
  have hg : g ≠ b := fun e => h.rs.vb (by rw [← e]; rfl)
  have K2 : ∀ i, i ≠ g → (wx.setCell ⟨g, j, none⟩ (.int .i64 x)).heap[i]? = wx.heap[i]? := fun i hi => Below.heap_setCell _ _ _ _ hi
  have kb := K2 b (Ne.symm hg)
  have lo := (h.rs.own.lt (b := g) rfl).1
  refine ⟨⟨(World.cell?_of_block kb).trans h.rs.c0, (World.cell?_of_block kb).trans h.rs.c1, (World.frozen?_of_block kb).trans h.rs.f1, h.rs.own.store j x, h.rs.vb, h.rs.lo, h.rs.bl.setCell (p := ⟨g, j, none⟩) lo _⟩, h.made.keep fun i e => K2 i (fun e2 => h.uv i e (by rw [e2]; rfl)), h.ub, h.uv⟩
theorem RI.push {w4 : World} {u' : Value} {o : Obj} {x : Int} (h : RI W1 wx b v u C M K) (ho : OwnL .i64 3 w4 W1.heap.size u' (M ++ [x])) (hb : Below W1.heap.size (wx.alloc o) w4) (hg : (wx.alloc o).grownBy w4 u.ownBlock) (hat : ∀ i, u'.ownBlock = some i → u.ownBlock = some i ∨ i = (wx.alloc o).heap.size) : RI W1 w4 b v u' C (M ++ [x]) K := by
  have hz := h.rs.bl.size
  have lb := World.block_lt_of_cell? wx _ h.rs.c0
  have K4 : ∀ j, j < wx.heap.size → u.ownBlock ≠ some j → w4.heap[j]? = wx.heap[j]? := fun j hj hne => (hg.block j (by simp; omega) (fun e => hne e.symm)).trans (Below.heap_alloc _ _ _ hj)
  refine ⟨h.rs.keep (K4 b lb h.ub) (fun i e => K4 i (h.rs.own.lt e).2 (fun e2 => h.uv i e2 e)) ((h.rs.bl.alloc hz o).trans hb), ho, fun e => ?_, fun i e e2 => ?_⟩
  · rcases hat _ e with d | d
    · exact h.ub d
    · have lb' : b < wx.heap.size := lb
      rw [World.size_alloc] at d; omega
  · rcases hat _ e with d | d
    · exact h.uv i d e2
    · have := (h.rs.own.lt e2).2
      rw [World.size_alloc] at d; omega
theorem RI.inc (h : RI W1 wx b v u C M K) : RI W1 (wx.setCell ⟨b, 1, none⟩ (.int .i64 (((K : Nat) : Int) + 1))) b v u C M (K + 1) := by
  have K2 : ∀ i, i ≠ b → (wx.setCell ⟨b, 1, none⟩ (.int .i64 (((K : Nat) : Int) + 1))).heap[i]? = wx.heap[i]? := fun i hi => Below.heap_setCell _ _ _ _ hi
  refine ⟨⟨?_, World.cell?_setCell_same _ _ _ h.rs.c1, by rw [World.frozen?_setCell]; exact h.rs.f1, h.rs.own.keep fun i e => K2 i (fun e2 => h.rs.vb (e2 ▸ e)), h.rs.vb, h.rs.lo, h.rs.bl.setCell (p := ⟨b, 1, none⟩) h.rs.lo _⟩, h.made.keep fun i e => K2 i (fun e2 => h.ub (e2 ▸ e)), h.ub, h.uv⟩
  rw [World.cell?_setCell_other (a := ⟨b, 1, none⟩) (b := ⟨b, 0, none⟩) (h := fun e => by cases e)]; exact h.rs.c0
end
end Go.Proofs.Ytnakadlhafggkaa
