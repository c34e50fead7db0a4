/-
  An object that holds numbers in classes: how it lies in memory, and what of old memory may turn.
-/
import Derived.Test.YtnakadlhafggkaaK1
namespace Go.Proofs.Ytnakadlhafggkaa
open Go.RowKit

/-- Outside of X old memory stays as it was. -/
structure Bx (X : Nat → Prop) (w w' : World) : Prop where
  os : w'.os = w.os
  tape : w'.tape = w.tape
  output : w'.output = w.output
  size : w.heap.size ≤ w'.heap.size
  block : ∀ k, k < w.heap.size → ¬ X k → w'.heap[k]? = w.heap[k]?
theorem Bx.refl (X : Nat → Prop) (w : World) : Bx X w w := ⟨rfl, rfl, rfl, Nat.le_refl _, fun _ _ _ => rfl⟩
theorem Bx.of {X : Nat → Prop} {w w' : World} (h : Below w.heap.size w w') : Bx X w w' := ⟨h.os, h.tape, h.output, h.size, fun k hk _ => h.block k hk⟩
theorem Bx.trans {X Y : Nat → Prop} {a b c : World} (h : Bx X a b) (k : Bx Y b c) (hY : ∀ j, j < a.heap.size → Y j → X j) : Bx X a c :=
  ⟨k.os.trans h.os, k.tape.trans h.tape, k.output.trans h.output, Nat.le_trans h.size k.size, fun j hj hx => (k.block j (Nat.lt_of_lt_of_le hj h.size) (fun y => hx (hY j hj y))).trans (h.block j hj hx)⟩
theorem Bx.below {X : Nat → Prop} {w w' : World} {B : Nat} (h : Bx X w w') (hX : ∀ k, X k → B ≤ k) (hB : B ≤ w.heap.size) : Below B w w' :=
  ⟨h.os, h.tape, h.output, h.size, fun k hk => h.block k (by omega) (fun x => by have := hX k x; omega)⟩
theorem Bx.grown {X : Nat → Prop} {a w w' : World} {row : Option Nat} (h : Bx X a w) (hg : w.grownBy w' row) (hr : ∀ k, row = some k → k < a.heap.size → X k) : Bx X a w' :=
  ⟨hg.os.trans h.os, hg.tape.trans h.tape, hg.output.trans h.output, Nat.le_trans h.size hg.size, fun k hk hx => (hg.block k (Nat.lt_of_lt_of_le hk h.size) (fun e => hx (hr k e.symm hk))).trans (h.block k hk hx)⟩
theorem Bx.setCell {X : Nat → Prop} {a w : World} (h : Bx X a w) {p : Addr} (hp : X p.block) (u : Value) : Bx X a (w.setCell p u) :=
  ⟨h.os, h.tape, h.output, by have := h.size; simpa [World.setCell] using this, fun k hk hx => (Below.heap_setCell w p u k (fun e => hx (by rw [e]; exact hp))).trans (h.block k hk hx)⟩
theorem Bx.alloc {X : Nat → Prop} {a w : World} (h : Bx X a w) (o : Obj) : Bx X a (w.alloc o) :=
  ⟨h.os, h.tape, h.output, by have := h.size; simp; omega, fun k hk hx => (Below.heap_alloc _ _ _ (Nat.lt_of_lt_of_le hk h.size)).trans (h.block k hk hx)⟩
theorem Bx.draws {X : Nat → Prop} {a w : World} (h : Bx X a w) (n : Nat) : Bx X a (w.drewN n) := ⟨h.os, h.tape, h.output, h.size, h.block⟩
theorem Bx.drew {X : Nat → Prop} {a w : World} (h : Bx X a w) : Bx X a w.drew := ⟨h.os, h.tape, h.output, h.size, h.block⟩
theorem Bx.cell {X : Nat → Prop} {w w' : World} (h : Bx X w w') {p : Addr} {u : Value} (hc : w.cell? p = some u) (hx : ¬ X p.block) : w'.cell? p = some u :=
  (World.cell?_of_block (h.block p.block (World.block_lt_of_cell? w _ hc) hx)).trans hc
theorem OwnL.bx {q : IntKind} {t : TypeId} {w w' : World} {B : Nat} {v : Value} {l : List Int} {X : Nat → Prop} (h : OwnL q t w B v l) (hb : Bx X w w') (hx : ∀ b, v.ownBlock = some b → ¬ X b) : OwnL q t w' B v l :=
  h.keep fun b e => hb.block b (h.lt e).2 (hx b e)
theorem RdL.bx {q : IntKind} {w w' : World} {a : Option Addr} {l : List Int} {X : Nat → Prop} (h : RdL q w a l) (hb : Bx X w w') (hx : ∀ x, a = some x → ¬ X x.block) : RdL q w' a l := by
  rcases h with h | ⟨b, off, rfl, hc⟩
  · exact .inl h
  · exact .inr ⟨b, off, rfl, fun i hi => hb.cell (hc i hi) (hx ⟨b, off, none⟩ rfl)⟩

/-- The cells of n pairs. -/
def cellsP (n : Nat) (F : Nat → Nat → Int) : List Value := (List.range (n * 2)).map fun j => .int .i64 (F (j / 2) (j % 2))
theorem length_cellsP (n : Nat) (F : Nat → Nat → Int) : (cellsP n F).length = n * 2 := by simp [cellsP]
theorem cellsP_get {n : Nat} {F : Nat → Nat → Int} {s i : Nat} (hs : s < n) (hi : i < 2) : (cellsP n F)[s * 2 + i]? = some (.int .i64 (F s i)) := by
  have h1 : s * 2 + i < n * 2 := by omega
  have h2 : (s * 2 + i) / 2 = s := by omega
  have h3 : (s * 2 + i) % 2 = i := by omega
  simp [cellsP, h1, h2, h3]
theorem cellsP_congr {n : Nat} {F G : Nat → Nat → Int} (h : ∀ s i, s < n → i < 2 → F s i = G s i) : cellsP n F = cellsP n G := by
  unfold cellsP
  apply List.map_congr_left
  intro j hj
  have := List.mem_range.1 hj
  rw [h (j / 2) (j % 2) (by omega) (by omega)]
/-- A slice of n pairs in memory of one's own (from block B on) reads as F. -/
def OwnP (w : World) (B : Nat) (v : Value) (n : Nat) (F : Nat → Nat → Int) : Prop := w.ownsRow B 88 2 v n (cellsP n F)
theorem OwnP.congr {w : World} {B n : Nat} {v : Value} {F G : Nat → Nat → Int} (h : OwnP w B v n F) (e : ∀ s i, s < n → i < 2 → F s i = G s i) : OwnP w B v n G := by
  unfold OwnP; rw [← cellsP_congr e]; exact h
theorem OwnP.lt {w : World} {B n : Nat} {v : Value} {F : Nat → Nat → Int} (h : OwnP w B v n F) {b : Nat} (e : v.ownBlock = some b) : B ≤ b ∧ b < w.heap.size := World.ownsRow.lt h b e
theorem OwnP.keep {w w' : World} {B n : Nat} {v : Value} {F : Nat → Nat → Int} (h : OwnP w B v n F) (k : ∀ b, v.ownBlock = some b → w'.heap[b]? = w.heap[b]?) : OwnP w' B v n F := by
  obtain ⟨h1, h2⟩ := h
  refine ⟨h1, ?_⟩
  rcases h2 with h2 | ⟨g, cap, cur, rfl, hg, hcell, rest⟩
  · exact .inl h2
  · exact .inr ⟨g, cap, cur, rfl, hg, by rw [k g rfl]; exact hcell, rest⟩
theorem OwnP.cells {w : World} {B n g cap : Nat} {F : Nat → Nat → Int} (h : OwnP w B (.slice (some ⟨g, 0, none⟩) n cap) n F) {s i : Nat} (hs : s < n) (hi : i < 2) :
    w.cell? ⟨g, s * 2 + i, none⟩ = some (.int .i64 (F s i)) ∧ w.frozen? ⟨g, s * 2 + i, none⟩ = false := by
  have := World.ownsRow.cellAt h (s * 2 + i) (by omega)
  rw [cellsP_get hs hi] at this
  exact ⟨this, World.ownsRow.frozenAt h _⟩
theorem OwnP.cap {w : World} {B n g cap : Nat} {F : Nat → Nat → Int} (h : OwnP w B (.slice (some ⟨g, 0, none⟩) n cap) n F) : n ≤ cap ∧ cap ≤ maxLen := by
  obtain ⟨h1, h2⟩ := h
  rcases h2 with ⟨h2, _⟩ | ⟨g, cap, cur, e, hg, hcell, hnc, hm, rest⟩
  · cases h2
  · cases e; exact ⟨hnc, hm⟩
/-- One number turned. -/
def setP (s i : Nat) (x : Int) (F : Nat → Nat → Int) (s' i' : Nat) : Int := if s' = s ∧ i' = i then x else F s' i'
/-- A pair more. -/
def addP (n : Nat) (x y : Int) (F : Nat → Nat → Int) (s i : Nat) : Int := if s < n then F s i else if i = 0 then x else y
theorem OwnP.store {w : World} {B g n cap : Nat} {F : Nat → Nat → Int} (h : OwnP w B (.slice (some ⟨g, 0, none⟩) n cap) n F) {s i : Nat} (hi : i < 2) (x : Int) :
    OwnP (w.setCell ⟨g, s * 2 + i, none⟩ (.int .i64 x)) B (.slice (some ⟨g, 0, none⟩) n cap) n (setP s i x F) := by
  have h1 := World.ownsRow.stored h (s * 2 + i) (.int .i64 x)
  unfold OwnP
  have e : (cellsP n F).set (s * 2 + i) (.int .i64 x) = cellsP n (setP s i x F) := by
    refine List.ext_getElem? fun j => ?_
    by_cases hj : j < n * 2
    · obtain ⟨t, y, ht, hy, rfl⟩ : ∃ t y, t < n ∧ y < 2 ∧ j = t * 2 + y := ⟨j / 2, j % 2, by omega, by omega, by omega⟩
      rw [cellsP_get ht hy, List.getElem?_set]
      by_cases e : s * 2 + i = t * 2 + y
      · obtain ⟨rfl, rfl⟩ : s = t ∧ i = y := by omega
        rw [if_pos rfl, if_pos (by rw [length_cellsP]; omega)]
        simp [setP]
      · rw [if_neg e, cellsP_get ht hy]
        have : ¬ (t = s ∧ y = i) := fun h => e (by rw [h.1, h.2])
        simp [setP, this]
    · rw [List.getElem?_eq_none (by rw [List.length_set, length_cellsP]; omega), List.getElem?_eq_none (by rw [length_cellsP]; omega)]
  rw [← e]
  exact h1.1
theorem infoPair : (Try.prog.info? 88).map (fun i => (i.zero, i.size, i.bytes)) = some (some (.agg #[.int .i64 0, .int .i64 0]), 2, 16) := by kernel_rfl

/-- Where an object lies: its own cells, the row, the places, the classes; how many numbers it holds. -/
structure Pp where
  b : Nat
  gr : Nat
  gp : Nat
  gc : Nat
  n : Nat
/-- Its blocks. -/
def Pp.has (p : Pp) (gs k : Nat) : Prop := k = p.b ∨ k = p.gr ∨ k = p.gp ∨ k = p.gc ∨ k = gs

structure PtAt (w : World) (p : Pp) (gs cap K : Nat) (R P C : List Int) (F : Nat → Nat → Int) : Prop where
  c0 : w.cell? ⟨p.b, 0, none⟩ = some (.slice (some ⟨p.gr, 0, none⟩) p.n p.n)
  c1 : w.cell? ⟨p.b, 1, none⟩ = some (.slice (some ⟨p.gp, 0, none⟩) p.n p.n)
  c2 : w.cell? ⟨p.b, 2, none⟩ = some (.slice (some ⟨p.gc, 0, none⟩) p.n p.n)
  c3 : w.cell? ⟨p.b, 3, none⟩ = some (.slice (some ⟨gs, 0, none⟩) K cap)
  f3 : w.frozen? ⟨p.b, 3, none⟩ = false
  r : OwnL .i64 3 w 0 (.slice (some ⟨p.gr, 0, none⟩) R.length p.n) R
  q : OwnL .i64 3 w 0 (.slice (some ⟨p.gp, 0, none⟩) P.length p.n) P
  c : OwnL .i64 3 w 0 (.slice (some ⟨p.gc, 0, none⟩) C.length p.n) C
  s : OwnP w 0 (.slice (some ⟨gs, 0, none⟩) K cap) K F
  lr : R.length = p.n
  lq : P.length = p.n
  lc : C.length = p.n
  br : p.b ≠ p.gr
  bp : p.b ≠ p.gp
  bc : p.b ≠ p.gc
  bs : p.b ≠ gs
  rp : p.gr ≠ p.gp
  rc : p.gr ≠ p.gc
  rs : p.gr ≠ gs
  pc : p.gp ≠ p.gc
  ps : p.gp ≠ gs
  cs : p.gc ≠ gs

section
variable {w w' : World} {p : Pp} {gs cap K : Nat} {R P C : List Int} {F : Nat → Nat → Int}
theorem PtAt.row (h : PtAt w p gs cap K R P C F) {i : Nat} (hi : i < p.n) : w.cell? ⟨p.gr, i, none⟩ = some (.int .i64 (R.getD i 0)) ∧ w.frozen? ⟨p.gr, i, none⟩ = false := by
  obtain ⟨g, c, e, -, -, -, -, h1, h2⟩ := h.r.pos (by rw [h.lr]; omega)
  cases e
  exact ⟨h1 i (by rw [h.lr]; exact hi), h2 i⟩
theorem PtAt.plc (h : PtAt w p gs cap K R P C F) {i : Nat} (hi : i < p.n) : w.cell? ⟨p.gp, i, none⟩ = some (.int .i64 (P.getD i 0)) ∧ w.frozen? ⟨p.gp, i, none⟩ = false := by
  obtain ⟨g, c, e, -, -, -, -, h1, h2⟩ := h.q.pos (by rw [h.lq]; omega)
  cases e
  exact ⟨h1 i (by rw [h.lq]; exact hi), h2 i⟩
theorem PtAt.cls (h : PtAt w p gs cap K R P C F) {i : Nat} (hi : i < p.n) : w.cell? ⟨p.gc, i, none⟩ = some (.int .i64 (C.getD i 0)) ∧ w.frozen? ⟨p.gc, i, none⟩ = false := by
  obtain ⟨g, c, e, -, -, -, -, h1, h2⟩ := h.c.pos (by rw [h.lc]; omega)
  cases e
  exact ⟨h1 i (by rw [h.lc]; exact hi), h2 i⟩
theorem PtAt.spn (h : PtAt w p gs cap K R P C F) {c i : Nat} (hc : c < K) (hi : i < 2) : w.cell? ⟨gs, c * 2 + i, none⟩ = some (.int .i64 (F c i)) ∧ w.frozen? ⟨gs, c * 2 + i, none⟩ = false := h.s.cells hc hi
/-- Where its blocks stay, it stays. -/
theorem PtAt.keep (h : PtAt w p gs cap K R P C F) (e : ∀ k, p.has gs k → w'.heap[k]? = w.heap[k]?) : PtAt w' p gs cap K R P C F := by
  have eb := e p.b (.inl rfl)
  have er := e p.gr (.inr (.inl rfl))
  have ep := e p.gp (.inr (.inr (.inl rfl)))
  have ec := e p.gc (.inr (.inr (.inr (.inl rfl))))
  have es := e gs (.inr (.inr (.inr (.inr rfl))))
  refine ⟨(World.cell?_of_block eb).trans h.c0, (World.cell?_of_block eb).trans h.c1, (World.cell?_of_block eb).trans h.c2, (World.cell?_of_block eb).trans h.c3, (World.frozen?_of_block eb).trans h.f3, h.r.keep fun b k => ?_, h.q.keep fun b k => ?_, h.c.keep fun b k => ?_, h.s.keep fun b k => ?_, h.lr, h.lq, h.lc, h.br, h.bp, h.bc, h.bs, h.rp, h.rc, h.rs, h.pc, h.ps, h.cs⟩
  · cases k; exact er
  · cases k; exact ep
  · cases k; exact ec
  · cases k; exact es
theorem PtAt.lt (h : PtAt w p gs cap K R P C F) {k : Nat} (hk : p.has gs k) : k < w.heap.size := by
  rcases hk with rfl | rfl | rfl | rfl | rfl
  · exact World.block_lt_of_cell? w _ h.c0
  · exact (h.r.lt rfl).2
  · exact (h.q.lt rfl).2
  · exact (h.c.lt rfl).2
  · exact (h.s.lt rfl).2
theorem PtAt.bx {X : Nat → Prop} (h : PtAt w p gs cap K R P C F) (hb : Bx X w w') (hx : ∀ k, p.has gs k → ¬ X k) : PtAt w' p gs cap K R P C F := h.keep fun k hk => hb.block k (h.lt hk) (hx k hk)
theorem PtAt.below (h : PtAt w p gs cap K R P C F) (hb : Below w.heap.size w w') : PtAt w' p gs cap K R P C F := h.keep fun k hk => hb.block k (h.lt hk)
theorem PtAt.draws (h : PtAt w p gs cap K R P C F) (n : Nat) : PtAt (w.drewN n) p gs cap K R P C F := h.keep fun _ _ => rfl
theorem PtAt.storeR (h : PtAt w p gs cap K R P C F) (i : Nat) (x : Int) : PtAt (w.setCell ⟨p.gr, i, none⟩ (.int .i64 x)) p gs cap K (R.set i x) P C F := by
  have e : ∀ k, k ≠ p.gr → (w.setCell ⟨p.gr, i, none⟩ (.int .i64 x)).heap[k]? = w.heap[k]? := fun k hk => Below.heap_setCell _ _ _ _ hk
  have eb := e _ h.br
  refine ⟨(World.cell?_of_block eb).trans h.c0, (World.cell?_of_block eb).trans h.c1, (World.cell?_of_block eb).trans h.c2, (World.cell?_of_block eb).trans h.c3, (World.frozen?_of_block eb).trans h.f3, ?_, h.q.keep fun b k => ?_, h.c.keep fun b k => ?_, h.s.keep fun b k => ?_, by rw [List.length_set]; exact h.lr, h.lq, h.lc, h.br, h.bp, h.bc, h.bs, h.rp, h.rc, h.rs, h.pc, h.ps, h.cs⟩
  · rw [List.length_set]; exact h.r.store i x
  · cases k; exact e _ h.rp.symm
  · cases k; exact e _ h.rc.symm
  · cases k; exact e _ h.rs.symm
theorem PtAt.storeP (h : PtAt w p gs cap K R P C F) (i : Nat) (x : Int) : PtAt (w.setCell ⟨p.gp, i, none⟩ (.int .i64 x)) p gs cap K R (P.set i x) C F := by
  have e : ∀ k, k ≠ p.gp → (w.setCell ⟨p.gp, i, none⟩ (.int .i64 x)).heap[k]? = w.heap[k]? := fun k hk => Below.heap_setCell _ _ _ _ hk
  have eb := e _ h.bp
  refine ⟨(World.cell?_of_block eb).trans h.c0, (World.cell?_of_block eb).trans h.c1, (World.cell?_of_block eb).trans h.c2, (World.cell?_of_block eb).trans h.c3, (World.frozen?_of_block eb).trans h.f3, h.r.keep fun b k => ?_, ?_, h.c.keep fun b k => ?_, h.s.keep fun b k => ?_, h.lr, by rw [List.length_set]; exact h.lq, h.lc, h.br, h.bp, h.bc, h.bs, h.rp, h.rc, h.rs, h.pc, h.ps, h.cs⟩
  · cases k; exact e _ h.rp
  · rw [List.length_set]; exact h.q.store i x
  · cases k; exact e _ h.pc.symm
  · cases k; exact e _ h.ps.symm
theorem PtAt.storeC (h : PtAt w p gs cap K R P C F) (i : Nat) (x : Int) : PtAt (w.setCell ⟨p.gc, i, none⟩ (.int .i64 x)) p gs cap K R P (C.set i x) F := by
  have e : ∀ k, k ≠ p.gc → (w.setCell ⟨p.gc, i, none⟩ (.int .i64 x)).heap[k]? = w.heap[k]? := fun k hk => Below.heap_setCell _ _ _ _ hk
  have eb := e _ h.bc
  refine ⟨(World.cell?_of_block eb).trans h.c0, (World.cell?_of_block eb).trans h.c1, (World.cell?_of_block eb).trans h.c2, (World.cell?_of_block eb).trans h.c3, (World.frozen?_of_block eb).trans h.f3, h.r.keep fun b k => ?_, h.q.keep fun b k => ?_, ?_, h.s.keep fun b k => ?_, h.lr, h.lq, by rw [List.length_set]; exact h.lc, h.br, h.bp, h.bc, h.bs, h.rp, h.rc, h.rs, h.pc, h.ps, h.cs⟩
  · cases k; exact e _ h.rc
  · cases k; exact e _ h.pc
  · rw [List.length_set]; exact h.c.store i x
  · cases k; exact e _ h.cs.symm
theorem PtAt.storeS (h : PtAt w p gs cap K R P C F) {s i : Nat} (hi : i < 2) (x : Int) : PtAt (w.setCell ⟨gs, s * 2 + i, none⟩ (.int .i64 x)) p gs cap K R P C (setP s i x F) := by
  have e : ∀ k, k ≠ gs → (w.setCell ⟨gs, s * 2 + i, none⟩ (.int .i64 x)).heap[k]? = w.heap[k]? := fun k hk => Below.heap_setCell _ _ _ _ hk
  have eb := e _ h.bs
  refine ⟨(World.cell?_of_block eb).trans h.c0, (World.cell?_of_block eb).trans h.c1, (World.cell?_of_block eb).trans h.c2, (World.cell?_of_block eb).trans h.c3, (World.frozen?_of_block eb).trans h.f3, h.r.keep fun b k => ?_, h.q.keep fun b k => ?_, h.c.keep fun b k => ?_, h.s.store hi x, h.lr, h.lq, h.lc, h.br, h.bp, h.bc, h.bs, h.rp, h.rc, h.rs, h.pc, h.ps, h.cs⟩
  · cases k; exact e _ h.rs
  · cases k; exact e _ h.ps
  · cases k; exact e _ h.cs
end

end Go.Proofs.Ytnakadlhafggkaa
