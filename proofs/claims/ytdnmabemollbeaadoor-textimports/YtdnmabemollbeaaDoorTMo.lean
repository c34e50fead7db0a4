/-
  The machine that is read: its object in memory, its two lists in the making.
-/
import Derived.Test.YtdnmabemollbeaaDoorTSrc
import Derived.Test.YtdnmabemollbeaaDoorK6
namespace Go.Proofs.YtdnmabemollbeaaDoor
open Go.RowKit

/-- The machine's object at mb, its rows from block B on. -/
structure Mo (w : World) (mb B : Nat) (kd k o n : Int) (vn vo : Value) (nx out : List Int) : Prop where
  p0 : w.cell? ⟨mb, 0, none⟩ = some (.int .i64 kd)
  p1 : w.cell? ⟨mb, 1, none⟩ = some (.int .i64 k)
  p2 : w.cell? ⟨mb, 2, none⟩ = some (.int .i64 o)
  p3 : w.cell? ⟨mb, 3, none⟩ = some (.int .i64 n)
  p4 : w.cell? ⟨mb, 4, none⟩ = some vn
  p5 : w.cell? ⟨mb, 5, none⟩ = some vo
  fz : ∀ i, w.frozen? ⟨mb, i, none⟩ = false
  on : OwnL .i64 3 w B vn nx
  oo : OwnL .i64 3 w B vo out
  ap : ∀ x, vn.ownBlock = some x → vo.ownBlock ≠ some x

section
variable {w w' : World} {mb B : Nat} {kd k o n : Int} {vn vo : Value} {nx out : List Int}
theorem Mo.lt (h : Mo w mb B kd k o n vn vo nx out) : mb < w.heap.size := World.block_lt_of_cell? w _ h.p0
theorem fz_gr {r : Option Nat} {b i : Nat} (h : w.frozen? ⟨b, i, none⟩ = false) (hg : w.grownBy w' r) (hb : b < w.heap.size) (hr : r ≠ some b) : w'.frozen? ⟨b, i, none⟩ = false := by
  rw [World.frozen?_of_block (w := w) (w' := w') (hg.block b hb fun e => hr e.symm)]; exact h
/-- It stays while another block grows. -/
theorem Mo.grown {r : Option Nat} (h : Mo w mb B kd k o n vn vo nx out) (hg : w.grownBy w' r) (h0 : r ≠ some mb) (h1 : ∀ x, vn.ownBlock = some x → r ≠ some x) (h2 : ∀ x, vo.ownBlock = some x → r ≠ some x) : Mo w' mb B kd k o n vn vo nx out := by
  have hl := h.lt
  have e : w'.heap[mb]? = w.heap[mb]? := hg.block mb hl fun e => h0 e.symm
  have ec : ∀ i, w'.cell? ⟨mb, i, none⟩ = w.cell? ⟨mb, i, none⟩ := fun i => World.cell?_of_block (a := ⟨mb, i, none⟩) e
  exact ⟨by rw [ec]; exact h.p0, by rw [ec]; exact h.p1, by rw [ec]; exact h.p2, by rw [ec]; exact h.p3, by rw [ec]; exact h.p4, by rw [ec]; exact h.p5, fun i => fz_gr (h.fz i) hg hl h0,
    h.on.keep fun b hb => hg.block b (h.on.lt hb).2 fun e => h1 b hb e.symm, h.oo.keep fun b hb => hg.block b (h.oo.lt hb).2 fun e => h2 b hb e.symm, h.ap⟩
theorem Mo.src {sb : Nat} (h : Mo w mb B kd k o n vn vo nx out) (hg : w.grownBy w' (some sb)) (h0 : sb ≠ mb) (hB : sb < B) : Mo w' mb B kd k o n vn vo nx out :=
  h.grown hg (by simpa using h0) (fun x hx e => by cases e; have := (h.on.lt hx).1; omega) (fun x hx e => by cases e; have := (h.oo.lt hx).1; omega)
theorem Mo.alloc (h : Mo w mb B kd k o n vn vo nx out) (u : Obj) : Mo (w.alloc u) mb B kd k o n vn vo nx out :=
  h.grown (World.grownBy_alloc w u none) (by intro e; cases e) (fun _ _ e => by cases e) (fun _ _ e => by cases e)
theorem OwnL.set {q : IntKind} {t : TypeId} {v : Value} {l : List Int} (h : OwnL q t w B v l) {p : Addr} (hp : v.ownBlock ≠ some p.block) (u : Value) : OwnL q t (w.setCell p u) B v l :=
  h.keep fun b hb => Below.heap_setCell w p u b fun e => hp (by rw [hb, e])
theorem fz_set {b i : Nat} {p : Addr} {u : Value} (h : w.frozen? ⟨b, i, none⟩ = false) : (w.setCell p u).frozen? ⟨b, i, none⟩ = false := by simpa using h
/-- A list that has grown is laid into the object. -/
theorem Mo.setN (h : Mo w mb B kd k o n vn vo nx out) (hB : mb < B) {v : Value} {l : List Int} (hg : w.grownBy w' vn.ownBlock) (hp : ∀ i, v.ownBlock = some i → vn.ownBlock = some i ∨ i = w.heap.size) (hv : OwnL .i64 3 w' B v l) :
    Mo (w'.setCell ⟨mb, 4, none⟩ v) mb B kd k o n v vo l out := by
  have hl := h.lt
  have hn : ∀ {x : Value} {l : List Int} {w : World}, OwnL .i64 3 w B x l → x.ownBlock ≠ some mb := fun ho e => by have := (ho.lt e).1; omega
  have e : w'.heap[mb]? = w.heap[mb]? := hg.block mb hl fun e => hn h.on e.symm
  have ec : ∀ i, w'.cell? ⟨mb, i, none⟩ = w.cell? ⟨mb, i, none⟩ := fun i => World.cell?_of_block (a := ⟨mb, i, none⟩) e
  have es : ∀ i, i ≠ 4 → (w'.setCell ⟨mb, 4, none⟩ v).cell? ⟨mb, i, none⟩ = w.cell? ⟨mb, i, none⟩ := fun i hi => by
    rw [World.cell?_setCell_other _ _ _ _ (by intro e; exact hi (by injection e with _ h _; exact h.symm)), ec]
  refine ⟨by rw [es 0 (by decide)]; exact h.p0, by rw [es 1 (by decide)]; exact h.p1, by rw [es 2 (by decide)]; exact h.p2, by rw [es 3 (by decide)]; exact h.p3, ?_, by rw [es 5 (by decide)]; exact h.p5,
    fun i => fz_set (fz_gr (h.fz i) hg hl (hn h.on)), hv.set (hn hv) _, ?_, fun x hx e => ?_⟩
  · exact World.cell?_setCell_same _ _ _ (by rw [ec]; exact h.p4)
  · refine OwnL.set (h.oo.keep fun b hb => hg.block b (h.oo.lt hb).2 fun e => ?_) (hn h.oo) _
    exact h.ap b e.symm hb
  · rcases hp x hx with h1 | h1
    · exact h.ap x h1 e
    · have := (h.oo.lt e).2; omega
theorem Mo.setO (h : Mo w mb B kd k o n vn vo nx out) (hB : mb < B) {v : Value} {l : List Int} (hg : w.grownBy w' vo.ownBlock) (hp : ∀ i, v.ownBlock = some i → vo.ownBlock = some i ∨ i = w.heap.size) (hv : OwnL .i64 3 w' B v l) :
    Mo (w'.setCell ⟨mb, 5, none⟩ v) mb B kd k o n vn v nx l := by
  have hl := h.lt
  have hn : ∀ {x : Value} {l : List Int} {w : World}, OwnL .i64 3 w B x l → x.ownBlock ≠ some mb := fun ho e => by have := (ho.lt e).1; omega
  have e : w'.heap[mb]? = w.heap[mb]? := hg.block mb hl fun e => hn h.oo e.symm
  have ec : ∀ i, w'.cell? ⟨mb, i, none⟩ = w.cell? ⟨mb, i, none⟩ := fun i => World.cell?_of_block (a := ⟨mb, i, none⟩) e
  have es : ∀ i, i ≠ 5 → (w'.setCell ⟨mb, 5, none⟩ v).cell? ⟨mb, i, none⟩ = w.cell? ⟨mb, i, none⟩ := fun i hi => by
    rw [World.cell?_setCell_other _ _ _ _ (by intro e; exact hi (by injection e with _ h _; exact h.symm)), ec]
  refine ⟨by rw [es 0 (by decide)]; exact h.p0, by rw [es 1 (by decide)]; exact h.p1, by rw [es 2 (by decide)]; exact h.p2, by rw [es 3 (by decide)]; exact h.p3, by rw [es 4 (by decide)]; exact h.p4, ?_,
    fun i => fz_set (fz_gr (h.fz i) hg hl (hn h.oo)), ?_, hv.set (hn hv) _, fun x hx e => ?_⟩
  · exact World.cell?_setCell_same _ _ _ (by rw [ec]; exact h.p5)
  · refine OwnL.set (h.on.keep fun b hb => hg.block b (h.on.lt hb).2 fun e => ?_) (hn h.on) _
    exact h.ap b hb e.symm
  · rcases hp x e with h1 | h1
    · exact h.ap x hx h1
    · have := (h.on.lt hx).2; omega
end
section
variable {w w' : World} {sb : Nat} {a : Option Addr} {c : Nat} {b : List UInt8} {i : Nat}
/-- The reader stays while another block grows. -/
theorem Sr.grown {r : Option Nat} (h : Sr w sb a c b i) (hg : w.grownBy w' r) (h0 : r ≠ some sb) (h1 : 0 < b.length → ∀ x, a = some x → r ≠ some x.block) : Sr w' sb a c b i := by
  have hl := h.lt
  have e : w'.heap[sb]? = w.heap[sb]? := hg.block sb hl fun e => h0 e.symm
  have ec : ∀ i, w'.cell? ⟨sb, i, none⟩ = w.cell? ⟨sb, i, none⟩ := fun i => World.cell?_of_block (a := ⟨sb, i, none⟩) e
  refine ⟨by rw [ec]; exact h.p0, by rw [ec]; exact h.p1, fz_gr h.fz hg hl h0, ?_, h.le, h.off⟩
  rcases h.rd with h2 | ⟨g, off, rfl, hc⟩
  · exact .inl h2
  · by_cases h3 : (zs b).length = 0
    · exact .inl h3
    · refine .inr ⟨g, off, rfl, fun j hj => ?_⟩
      exact World.grownBy.cell hg (hc j hj) fun e => h1 (by rw [zs_len] at h3; omega) _ rfl e.symm
theorem Sr.setB (h : Sr w sb a c b i) {p : Addr} (hp : p.block ≠ sb) (ha : 0 < b.length → ∀ x, a = some x → x.block ≠ p.block) (u : Value) : Sr (w.setCell p u) sb a c b i :=
  ⟨by rw [World.cell?_setCell_other _ _ _ _ (by intro e; exact hp (by rw [e]))]; exact h.p0, by rw [World.cell?_setCell_other _ _ _ _ (by intro e; exact hp (by rw [e]))]; exact h.p1, by simpa using h.fz, h.rd.set (fun h0 => ha (by rwa [zs_len] at h0)) _, h.le, h.off⟩
theorem Sr.alloc (h : Sr w sb a c b i) (u : Obj) : Sr (w.alloc u) sb a c b i := h.grown (World.grownBy_alloc w u none) (by intro e; cases e) (fun _ _ _ e => by cases e)
end
/-- Below mb all is as it was. -/
theorem bl_gr {w w' : World} {mb : Nat} {r : Option Nat} (hg : w.grownBy w' r) (hb : mb ≤ w.heap.size) (hr : ∀ x, r = some x → mb ≤ x) : Below mb w w' := (Below.refl mb w).grown hg hb hr

end Go.Proofs.YtdnmabemollbeaaDoor
