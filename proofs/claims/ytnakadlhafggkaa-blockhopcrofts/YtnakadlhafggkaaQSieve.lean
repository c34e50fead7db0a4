/-
  The object that parts states: how it lies in memory.
-/
import Derived.Test.YtnakadlhafggkaaQQue
import Derived.Test.YtnakadlhafggkaaQLive
import Derived.Test.YtnakadlhafggkaaQSplit
import Derived.Test.YtnakadlhafggkaaK13
namespace Go.Proofs.Ytnakadlhafggkaa
open Go.RowKit

/-- The object at block z, behind w0: its part, the row that waits, of each class whether it waits. -/
structure Sv (w0 w : World) (z : Nat) (p : Pp) (gs cap : Nat) (s : St) (vq vw : Value) (kw : Nat) (f : Nat → Bool) (Wl : List Int) : Prop where
  ob : Ob w0 w p gs cap s
  c0 : w.cell? ⟨z, 0, none⟩ = some (.pointer (some ⟨p.b, 0, none⟩))
  c1 : w.cell? ⟨z, 1, none⟩ = some vq
  c2 : w.cell? ⟨z, 2, none⟩ = some vw
  f1 : w.frozen? ⟨z, 1, none⟩ = false
  f2 : w.frozen? ⟨z, 2, none⟩ = false
  q : Que w vq Wl
  e : OwnE 4 w 0 vw kw (bv f)
  zl : w0.heap.size ≤ z
  zp : ¬ p.has gs z
  ql : ∀ b, vq.ownBlock = some b → w0.heap.size ≤ b ∧ b ≠ z ∧ ¬ p.has gs b
  wl : ∀ b, vw.ownBlock = some b → w0.heap.size ≤ b ∧ b ≠ z ∧ ¬ p.has gs b ∧ vq.ownBlock ≠ some b

section
variable {w0 w w1 w2 w' : World} {z : Nat} {p : Pp} {gs cap : Nat} {s : St} {vq vw v' : Value} {kw : Nat} {f : Nat → Bool} {Wl : List Int}
theorem Sv.lt (h : Sv w0 w z p gs cap s vq vw kw f Wl) : z < w.heap.size := World.block_lt_of_cell? w _ h.c0
/-- Nothing of it turned. -/
theorem Sv.keep (h : Sv w0 w z p gs cap s vq vw kw f Wl) (hb : Below w0.heap.size w0 w') (k : ∀ b, b < w.heap.size → b = z ∨ p.has gs b ∨ vq.ownBlock = some b ∨ vw.ownBlock = some b → w'.heap[b]? = w.heap[b]?) : Sv w0 w' z p gs cap s vq vw kw f Wl := by
  have kz := k z h.lt (.inl rfl)
  have cz : ∀ i, w'.cell? ⟨z, i, none⟩ = w.cell? ⟨z, i, none⟩ := fun i => World.cell?_of_block kz
  have fz : ∀ i, w'.frozen? ⟨z, i, none⟩ = w.frozen? ⟨z, i, none⟩ := fun i => World.frozen?_of_block kz
  refine ⟨⟨PtAt.keep h.ob.at_ (fun b hb => k b (PtAt.lt h.ob.at_ hb) (.inr (.inl hb))), h.ob.pi, h.ob.lo, hb⟩, (cz 0).trans h.c0, (cz 1).trans h.c1, (cz 2).trans h.c2, (fz 1).trans h.f1, (fz 2).trans h.f2, h.q.keep (fun b e => k b (h.q.lt e) (.inr (.inr (.inl e)))), h.e.keep (fun b e => k b (h.e.lt e).2 (.inr (.inr (.inr e)))), h.zl, h.zp, h.ql, h.wl⟩
theorem Sv.on (h : Sv w0 w z p gs cap s vq vw kw f Wl) (hb : Below w.heap.size w w') : Sv w0 w' z p gs cap s vq vw kw f Wl :=
  h.keep (h.ob.bl.trans (hb.mono h.ob.bl.size)) (fun b hk _ => hb.block b hk)
theorem Sv.draws (h : Sv w0 w z p gs cap s vq vw kw f Wl) (n : Nat) : Sv w0 (w.drewN n) z p gs cap s vq vw kw f Wl :=
  h.keep (below_drewN h.ob.bl n) (fun _ _ _ => rfl)
/-- A new block is none of its blocks. -/
theorem Sv.no (h : Sv w0 w z p gs cap s vq vw kw f Wl) {b : Nat} (hb : w.heap.size ≤ b) : b ≠ z ∧ ¬ p.has gs b ∧ vq.ownBlock ≠ some b ∧ vw.ownBlock ≠ some b := by
  have := h.lt
  refine ⟨by omega, h.ob.no (.inr hb), fun e => ?_, fun e => ?_⟩
  · have := h.q.lt e; omega
  · have := (h.e.lt e).2; omega
/-- What waits has grown in memory, and is laid down. -/
theorem Sv.putQ {l' : List Int} (h : Sv w0 w z p gs cap s vq vw kw f Wl) (hb : Below w.heap.size w w1) (hg : w1.grownBy w2 vq.ownBlock) (q2 : Que w2 v' l') (ho : ∀ i, v'.ownBlock = some i → vq.ownBlock = some i ∨ w1.heap.size ≤ i) :
    Sv w0 (w2.setCell ⟨z, 1, none⟩ v') z p gs cap s v' vw kw f l' := by
  have hz := h.lt
  have hs1 := hb.size
  have hs2 := hg.size
  have zq : vq.ownBlock ≠ some z := fun e => (h.ql z e).2.1 rfl
  have k2 : ∀ b, b < w.heap.size → vq.ownBlock ≠ some b → w2.heap[b]? = w.heap[b]? := fun b h1 h2 => (hg.block b (by omega) (fun e => h2 e.symm)).trans (hb.block b h1)
  have k3 : ∀ b, b ≠ z → (w2.setCell ⟨z, 1, none⟩ v').heap[b]? = w2.heap[b]? := fun b hne => Below.heap_setCell w2 _ _ b hne
  have kz := k2 z hz zq
  have cz : ∀ i, w2.cell? ⟨z, i, none⟩ = w.cell? ⟨z, i, none⟩ := fun i => World.cell?_of_block kz
  have fz : ∀ i, w2.frozen? ⟨z, i, none⟩ = w.frozen? ⟨z, i, none⟩ := fun i => World.frozen?_of_block kz
  have v'l : ∀ b, v'.ownBlock = some b → w0.heap.size ≤ b ∧ b ≠ z ∧ ¬ p.has gs b ∧ vw.ownBlock ≠ some b := fun b e => by
    rcases ho b e with d | d
    · exact ⟨(h.ql b d).1, (h.ql b d).2.1, (h.ql b d).2.2, fun e2 => (h.wl b e2).2.2.2 d⟩
    · have n := h.no (b := b) (by omega)
      have := h.zl
      exact ⟨by omega, n.1, n.2.1, n.2.2.2⟩
  refine ⟨⟨PtAt.keep h.ob.at_ (fun b hb' => (k3 b (fun e => h.zp (e ▸ hb'))).trans (k2 b (PtAt.lt h.ob.at_ hb') (fun e => (h.ql b e).2.2 hb'))), h.ob.pi, h.ob.lo, ?_⟩, ?_, World.cell?_setCell_same w2 _ _ ((cz 1).trans h.c1), ?_, ?_, ?_, q2.keep (fun b e => k3 b (v'l b e).2.1), h.e.keep (fun b e => (k3 b (h.wl b e).2.1).trans (k2 b (h.e.lt e).2 (h.wl b e).2.2.2)), h.zl, h.zp, fun b e => ⟨(v'l b e).1, (v'l b e).2.1, (v'l b e).2.2.1⟩, fun b e => ⟨(h.wl b e).1, (h.wl b e).2.1, (h.wl b e).2.2.1, fun e2 => (v'l b e2).2.2.2 e⟩⟩
  · have b1 : Below w0.heap.size w0 w1 := h.ob.bl.trans (hb.mono h.ob.bl.size)
    have b2 : Below w0.heap.size w0 w2 := b1.grown hg b1.size (fun k e => (h.ql k e).1)
    exact b2.setCell h.zl _
  · rw [World.cell?_setCell_other _ _ _ _ (by simp)]; exact (cz 0).trans h.c0
  · rw [World.cell?_setCell_other _ _ _ _ (by simp)]; exact (cz 2).trans h.c2
  · rw [World.frozen?_setCell]; exact (fz 1).trans h.f1
  · rw [World.frozen?_setCell]; exact (fz 2).trans h.f2
/-- The marks have grown in memory, and are laid down. -/
theorem Sv.putW {k' : Nat} {f' : Nat → Bool} (h : Sv w0 w z p gs cap s vq vw kw f Wl) (hb : Below w.heap.size w w1) (hg : w1.grownBy w2 vw.ownBlock) (e2 : OwnE 4 w2 0 v' k' (bv f')) (ho : ∀ i, v'.ownBlock = some i → vw.ownBlock = some i ∨ i = w1.heap.size) :
    Sv w0 (w2.setCell ⟨z, 2, none⟩ v') z p gs cap s vq v' k' f' Wl := by
  have hz := h.lt
  have hs1 := hb.size
  have hs2 := hg.size
  have zq : vw.ownBlock ≠ some z := fun e => (h.wl z e).2.1 rfl
  have k2 : ∀ b, b < w.heap.size → vw.ownBlock ≠ some b → w2.heap[b]? = w.heap[b]? := fun b h1 h2 => (hg.block b (by omega) (fun e => h2 e.symm)).trans (hb.block b h1)
  have k3 : ∀ b, b ≠ z → (w2.setCell ⟨z, 2, none⟩ v').heap[b]? = w2.heap[b]? := fun b hne => Below.heap_setCell w2 _ _ b hne
  have kz := k2 z hz zq
  have cz : ∀ i, w2.cell? ⟨z, i, none⟩ = w.cell? ⟨z, i, none⟩ := fun i => World.cell?_of_block kz
  have fz : ∀ i, w2.frozen? ⟨z, i, none⟩ = w.frozen? ⟨z, i, none⟩ := fun i => World.frozen?_of_block kz
  have v'l : ∀ b, v'.ownBlock = some b → w0.heap.size ≤ b ∧ b ≠ z ∧ ¬ p.has gs b ∧ vq.ownBlock ≠ some b := fun b e => by
    rcases ho b e with d | d
    · exact h.wl b d
    · have n := h.no (b := b) (by omega)
      have := h.zl
      exact ⟨by omega, n.1, n.2.1, n.2.2.1⟩
  refine ⟨⟨PtAt.keep h.ob.at_ (fun b hb' => (k3 b (fun e => h.zp (e ▸ hb'))).trans (k2 b (PtAt.lt h.ob.at_ hb') (fun e => (h.wl b e).2.2.1 hb'))), h.ob.pi, h.ob.lo, ?_⟩, ?_, ?_, World.cell?_setCell_same w2 _ _ ((cz 2).trans h.c2), ?_, ?_, h.q.keep (fun b e => (k3 b (h.ql b e).2.1).trans (k2 b (h.q.lt e) (fun e3 => (h.wl b e3).2.2.2 e))), e2.keep (fun b e => k3 b (v'l b e).2.1), h.zl, h.zp, h.ql, v'l⟩
  · have b1 : Below w0.heap.size w0 w1 := h.ob.bl.trans (hb.mono h.ob.bl.size)
    have b2 : Below w0.heap.size w0 w2 := b1.grown hg b1.size (fun k e => (h.wl k e).1)
    exact b2.setCell h.zl _
  · rw [World.cell?_setCell_other _ _ _ _ (by simp)]; exact (cz 0).trans h.c0
  · rw [World.cell?_setCell_other _ _ _ _ (by simp)]; exact (cz 1).trans h.c1
  · rw [World.frozen?_setCell]; exact (fz 1).trans h.f1
  · rw [World.frozen?_setCell]; exact (fz 2).trans h.f2
/-- One mark is set. -/
theorem Sv.mark {g c : Nat} (h : Sv w0 w z p gs cap s vq (.slice (some ⟨g, 0, none⟩) kw c) kw f Wl) (j : Nat) (t : Bool) : Sv w0 (w.setCell ⟨g, j, none⟩ (.bool t)) z p gs cap s vq (.slice (some ⟨g, 0, none⟩) kw c) kw (fun i => if i = j then t else f i) Wl := by
  have k3 : ∀ b, b ≠ g → (w.setCell ⟨g, j, none⟩ (.bool t)).heap[b]? = w.heap[b]? := fun b hne => Below.heap_setCell w _ _ b hne
  obtain ⟨g1, g2, g3, g4⟩ := h.wl g rfl
  have kz := k3 z (Ne.symm g2)
  have cz : ∀ i, (w.setCell ⟨g, j, none⟩ (.bool t)).cell? ⟨z, i, none⟩ = w.cell? ⟨z, i, none⟩ := fun i => World.cell?_of_block kz
  have fz : ∀ i, (w.setCell ⟨g, j, none⟩ (.bool t)).frozen? ⟨z, i, none⟩ = w.frozen? ⟨z, i, none⟩ := fun i => World.frozen?_of_block kz
  refine ⟨⟨PtAt.keep h.ob.at_ (fun b hb' => k3 b (fun e => g3 (e ▸ hb'))), h.ob.pi, h.ob.lo, h.ob.bl.setCell g1 _⟩, (cz 0).trans h.c0, (cz 1).trans h.c1, (cz 2).trans h.c2, (fz 1).trans h.f1, (fz 2).trans h.f2, h.q.keep (fun b e => k3 b (fun d => g4 (d ▸ e))), (h.e.store j (.bool t)).congr (fun i _ => ?_), h.zl, h.zp, h.ql, h.wl⟩
  by_cases c1 : i = j <;> simp [setV, bv, c1]
theorem Ob.splitS {gs' cap' : Nat} {s' : St} {l : List Int} {v : Value} {G : Nat → Nat → Int} (h : Ob w0 w p gs cap s) (hp : SpPost w p gs s l w' gs' cap' s' v G) : Ob w0 w' p gs' cap' s' := by
  have hz := h.bl.size
  refine ⟨hp.at_, hp.pi, fun k hk => ?_, h.bl.trans (hp.bx.below h.lo hz)⟩
  rcases hk with e | e | e | e | e
  · exact h.lo k (.inl e)
  · exact h.lo k (.inr (.inl e))
  · exact h.lo k (.inr (.inr (.inl e)))
  · exact h.lo k (.inr (.inr (.inr (.inl e))))
  · rcases hp.new with d | d
    · exact h.lo k (.inr (.inr (.inr (.inr (e.trans d)))))
    · omega
/-- The part is split. -/
theorem Sv.split {gs' cap' : Nat} {s' : St} {l : List Int} {v : Value} {G : Nat → Nat → Int} (h : Sv w0 w z p gs cap s vq vw kw f Wl) (hp : SpPost w p gs s l w' gs' cap' s' v G) : Sv w0 w' z p gs' cap' s' vq vw kw f Wl := by
  have k : ∀ b, b < w.heap.size → ¬ p.has gs b → w'.heap[b]? = w.heap[b]? := fun b h1 h2 => hp.bx.block b h1 h2
  have n' : ∀ b, b < w.heap.size → ¬ p.has gs b → ¬ p.has gs' b := fun b h1 h2 h3 => by
    rcases h3 with e | e | e | e | e
    · exact h2 (.inl e)
    · exact h2 (.inr (.inl e))
    · exact h2 (.inr (.inr (.inl e)))
    · exact h2 (.inr (.inr (.inr (.inl e))))
    · rcases hp.new with d | d
      · exact h2 (.inr (.inr (.inr (.inr (e.trans d)))))
      · omega
  have kz := k z h.lt h.zp
  have cz : ∀ i, w'.cell? ⟨z, i, none⟩ = w.cell? ⟨z, i, none⟩ := fun i => World.cell?_of_block kz
  have fz : ∀ i, w'.frozen? ⟨z, i, none⟩ = w.frozen? ⟨z, i, none⟩ := fun i => World.frozen?_of_block kz
  exact ⟨h.ob.splitS hp, (cz 0).trans h.c0, (cz 1).trans h.c1, (cz 2).trans h.c2, (fz 1).trans h.f1, (fz 2).trans h.f2, h.q.keep (fun b e => k b (h.q.lt e) (h.ql b e).2.2), h.e.keep (fun b e => k b (h.e.lt e).2 (h.wl b e).2.2.1), h.zl, n' z h.lt h.zp, fun b e => ⟨(h.ql b e).1, (h.ql b e).2.1, n' b (h.q.lt e) (h.ql b e).2.2⟩, fun b e => ⟨(h.wl b e).1, (h.wl b e).2.1, n' b (h.e.lt e).2 (h.wl b e).2.2.1, (h.wl b e).2.2.2⟩⟩
end

/-- The marks say what waits. -/
structure Wn (kw : Nat) (f : Nat → Bool) (Wl : List Int) : Prop where
  nd : Wl.Nodup
  mem : ∀ x ∈ Wl, 0 ≤ x ∧ x < (kw : Int)
  say : ∀ i, i < kw → (f i = true ↔ (i : Int) ∈ Wl)
/-- Which halves were laid to what waits. -/
def Hv (G : Nat → Nat → Int) (Wl : List Int) (t : Nat) (W : List Int) : Prop := ∃ H : List Int, W = Wl ++ H ∧ H.length = t ∧ ∀ j, j < t → H.getD j 0 = G j 1 ∨ (H.getD j 0 = G j 0 ∧ G j 0 ∉ Wl)
theorem Hv.start (G : Nat → Nat → Int) (Wl : List Int) : Hv G Wl 0 Wl := ⟨[], by simp, rfl, fun j h => by omega⟩
theorem Hv.step {G : Nat → Nat → Int} {Wl W : List Int} {t : Nat} {x : Int} (h : Hv G Wl t W) (hx : x = G t 1 ∨ (x = G t 0 ∧ G t 0 ∉ W)) : Hv G Wl (t + 1) (W ++ [x]) := by
  obtain ⟨H, rfl, hl, hj⟩ := h
  refine ⟨H ++ [x], by simp, by simp [hl], fun j hjt => ?_⟩
  by_cases e : j < t
  · have : (H ++ [x]).getD j 0 = H.getD j 0 := by simp [List.getD, List.getElem?_append, hl, e]
    rw [this]; exact hj j e
  · have e2 : j = t := by omega
    subst e2
    have : (H ++ [x]).getD j 0 = x := by simp [List.getD, hl]
    rw [this]
    exact hx.imp id fun ⟨a, b⟩ => ⟨a, fun m => b (List.mem_append_left _ m)⟩
theorem Wn.more {kw : Nat} {f : Nat → Bool} {Wl : List Int} (h : Wn kw f Wl) : Wn (kw + 1) (fun i => if i < kw then f i else false) Wl := by
  refine ⟨h.nd, fun x hx => ?_, fun i hi => ?_⟩
  · have := h.mem x hx; omega
  · by_cases c : i < kw
    · simp only [if_pos c]; exact h.say i c
    · simp only [if_neg c]
      refine ⟨fun e => (by simp at e), fun m => ?_⟩
      have := h.mem _ m; omega
theorem Wn.push {kw : Nat} {f : Nat → Bool} {Wl : List Int} {j : Nat} (h : Wn kw f Wl) (hj : j < kw) (hn : (j : Int) ∉ Wl) : Wn kw (fun i => if i = j then true else f i) (Wl ++ [(j : Int)]) := by
  refine ⟨?_, fun x hx => ?_, fun i hi => ?_⟩
  · rw [List.nodup_append]
    refine ⟨h.nd, by simp, fun a ha b hb e => ?_⟩
    have : b = (j : Int) := by simpa using hb
    exact hn (this ▸ e ▸ ha)
  · rcases List.mem_append.1 hx with m | m
    · exact h.mem x m
    · have : x = (j : Int) := by simpa using m
      omega
  · rw [List.mem_append, ← h.say i hi]
    by_cases c : i = j
    · subst c; simp
    · simp only [if_neg c]
      refine ⟨.inl, fun m => m.elim id fun m => ?_⟩
      have : (i : Int) = (j : Int) := by simpa using m
      omega
theorem Wn.pop {kw : Nat} {f : Nat → Bool} {Wl : List Int} {j : Nat} (h : Wn kw f ((j : Int) :: Wl)) : Wn kw (fun i => if i = j then false else f i) Wl := by
  obtain ⟨h1, h2⟩ := List.nodup_cons.1 h.nd
  refine ⟨h2, fun x hx => h.mem x (List.mem_cons_of_mem _ hx), fun i hi => ?_⟩
  by_cases c : i = j
  · subst c; simp [h1]
  · simp only [if_neg c]
    rw [h.say i hi, List.mem_cons]
    refine ⟨fun m => m.elim (fun e => by omega) id, .inr⟩
end Go.Proofs.Ytnakadlhafggkaa
