/-
  A query and an answer in memory that are written anew.
-/
import Derived.Test.YtagoilabphmdfaaETell
import Derived.Test.YtagoilabphmdfaaK6
namespace Go.Proofs.Ytagoilabphmdfaa
open Go.RowKit

/-- A query's eight cells are set. -/
def octo (w : World) (b : Nat) (p : Pq) : World := ((((((((w.setCell ⟨b, 0, none⟩ (.int .i64 p.q.kind)).setCell ⟨b, 1, none⟩ (.slice p.aw p.q.word.length p.cw)).setCell ⟨b, 2, none⟩ (.int .i64 p.q.hyp.kind)).setCell ⟨b, 3, none⟩ (.int .i64 p.q.hyp.k)).setCell ⟨b, 4, none⟩ (.int .i64 p.q.hyp.o)).setCell ⟨b, 5, none⟩ (.int .i64 p.q.hyp.n)).setCell ⟨b, 6, none⟩ (.slice p.a1 p.q.hyp.nx.length p.c1)).setCell ⟨b, 7, none⟩ (.slice p.a2 p.q.hyp.out.length p.c2))
theorem octo_heap (w : World) {b : Nat} (p : Pq) {j : Nat} (hj : j ≠ b) : (octo w b p).heap[j]? = w.heap[j]? := by
  unfold octo
  rw [Below.heap_setCell _ _ _ _ (by simpa using hj), Below.heap_setCell _ _ _ _ (by simpa using hj), Below.heap_setCell _ _ _ _ (by simpa using hj), Below.heap_setCell _ _ _ _ (by simpa using hj), Below.heap_setCell _ _ _ _ (by simpa using hj), Below.heap_setCell _ _ _ _ (by simpa using hj), Below.heap_setCell _ _ _ _ (by simpa using hj), Below.heap_setCell _ _ _ _ (by simpa using hj)]
theorem octo_below {w w1 : World} {B b : Nat} (h : Below B w w1) (hb : B ≤ b) (p : Pq) : Below B w (octo w1 b p) :=
  ((((((((h.setCell (p := ⟨b, 0, none⟩) hb _).setCell (p := ⟨b, 1, none⟩) hb _).setCell (p := ⟨b, 2, none⟩) hb _).setCell (p := ⟨b, 3, none⟩) hb _).setCell (p := ⟨b, 4, none⟩) hb _).setCell (p := ⟨b, 5, none⟩) hb _).setCell (p := ⟨b, 6, none⟩) hb _).setCell (p := ⟨b, 7, none⟩) hb _)
theorem octo_size (w : World) (b : Nat) (p : Pq) : (octo w b p).heap.size = w.heap.size := by unfold octo; simp
theorem Qb.set {w : World} {b : Nat} {p0 : Pq} (h : Qb w b p0) (p : Pq) : Qb (octo w b p) b p := by
  have ot : ∀ (u : World) (i j : Nat) (v : Value), i ≠ j → (u.setCell ⟨b, i, none⟩ v).cell? ⟨b, j, none⟩ = u.cell? ⟨b, j, none⟩ := fun u i j v hi => World.cell?_setCell_other (w := u) (a := ⟨b, i, none⟩) (b := ⟨b, j, none⟩) (v := v) (h := fun e => hi (by injection e with _ e2 _))
  have sm : ∀ (u : World) (i : Nat) (v x : Value), u.cell? ⟨b, i, none⟩ = some x → (u.setCell ⟨b, i, none⟩ v).cell? ⟨b, i, none⟩ = some v := fun u i v x hx => World.cell?_setCell_same u ⟨b, i, none⟩ v hx
  unfold octo
  constructor
  · rw [ot _ 7 0 _ (by decide), ot _ 6 0 _ (by decide), ot _ 5 0 _ (by decide), ot _ 4 0 _ (by decide), ot _ 3 0 _ (by decide), ot _ 2 0 _ (by decide), ot _ 1 0 _ (by decide)]; exact sm _ 0 _ _ h.p0
  · rw [ot _ 7 1 _ (by decide), ot _ 6 1 _ (by decide), ot _ 5 1 _ (by decide), ot _ 4 1 _ (by decide), ot _ 3 1 _ (by decide), ot _ 2 1 _ (by decide)]; exact sm _ 1 _ _ ((ot _ 0 1 _ (by decide)).trans h.p1)
  · rw [ot _ 7 2 _ (by decide), ot _ 6 2 _ (by decide), ot _ 5 2 _ (by decide), ot _ 4 2 _ (by decide), ot _ 3 2 _ (by decide)]; exact sm _ 2 _ _ ((ot _ 1 2 _ (by decide)).trans ((ot _ 0 2 _ (by decide)).trans h.p2))
  · rw [ot _ 7 3 _ (by decide), ot _ 6 3 _ (by decide), ot _ 5 3 _ (by decide), ot _ 4 3 _ (by decide)]; exact sm _ 3 _ _ ((ot _ 2 3 _ (by decide)).trans ((ot _ 1 3 _ (by decide)).trans ((ot _ 0 3 _ (by decide)).trans h.p3)))
  · rw [ot _ 7 4 _ (by decide), ot _ 6 4 _ (by decide), ot _ 5 4 _ (by decide)]; exact sm _ 4 _ _ ((ot _ 3 4 _ (by decide)).trans ((ot _ 2 4 _ (by decide)).trans ((ot _ 1 4 _ (by decide)).trans ((ot _ 0 4 _ (by decide)).trans h.p4))))
  · rw [ot _ 7 5 _ (by decide), ot _ 6 5 _ (by decide)]; exact sm _ 5 _ _ ((ot _ 4 5 _ (by decide)).trans ((ot _ 3 5 _ (by decide)).trans ((ot _ 2 5 _ (by decide)).trans ((ot _ 1 5 _ (by decide)).trans ((ot _ 0 5 _ (by decide)).trans h.p5)))))
  · rw [ot _ 7 6 _ (by decide)]; exact sm _ 6 _ _ ((ot _ 5 6 _ (by decide)).trans ((ot _ 4 6 _ (by decide)).trans ((ot _ 3 6 _ (by decide)).trans ((ot _ 2 6 _ (by decide)).trans ((ot _ 1 6 _ (by decide)).trans ((ot _ 0 6 _ (by decide)).trans h.p6))))))
  · exact sm _ 7 _ _ ((ot _ 6 7 _ (by decide)).trans ((ot _ 5 7 _ (by decide)).trans ((ot _ 4 7 _ (by decide)).trans ((ot _ 3 7 _ (by decide)).trans ((ot _ 2 7 _ (by decide)).trans ((ot _ 1 7 _ (by decide)).trans ((ot _ 0 7 _ (by decide)).trans h.p7)))))))

theorem Box.keepB {w w' : World} {b : Nat} {m : Mc} {a1 : Option Addr} {c1 : Nat} {a2 : Option Addr} {c2 : Nat} (h : Box w b m a1 c1 a2 c2) (e : w'.heap[b]? = w.heap[b]?) : Box w' b m a1 c1 a2 c2 := by
  have ec : ∀ i, w'.cell? ⟨b, i, none⟩ = w.cell? ⟨b, i, none⟩ := fun i => World.cell?_of_block (a := ⟨b, i, none⟩) e
  exact ⟨(ec _).trans h.p0, (ec _).trans h.p1, (ec _).trans h.p2, (ec _).trans h.p3, (ec _).trans h.p4, (ec _).trans h.p5⟩
theorem Qb.keepB {w w' : World} {b : Nat} {p : Pq} (h : Qb w b p) (e : w'.heap[b]? = w.heap[b]?) : Qb w' b p := by
  have ec : ∀ i, w'.cell? ⟨b, i, none⟩ = w.cell? ⟨b, i, none⟩ := fun i => World.cell?_of_block (a := ⟨b, i, none⟩) e
  exact ⟨(ec _).trans h.p0, (ec _).trans h.p1, (ec _).trans h.p2, (ec _).trans h.p3, (ec _).trans h.p4, (ec _).trans h.p5, (ec _).trans h.p6, (ec _).trans h.p7⟩
theorem Tri.keepB {w w' : World} {b : Nat} {u0 u1 u2 : Value} (h : Tri w b u0 u1 u2) (e : w'.heap[b]? = w.heap[b]?) : Tri w' b u0 u1 u2 := by
  have ec : ∀ i, w'.cell? ⟨b, i, none⟩ = w.cell? ⟨b, i, none⟩ := fun i => World.cell?_of_block (a := ⟨b, i, none⟩) e
  exact ⟨(ec _).trans h.p0, (ec _).trans h.p1, (ec _).trans h.p2⟩
theorem frzB {w w' : World} {b : Nat} (h : ∀ i, w.frozen? ⟨b, i, none⟩ = false) (e : w'.heap[b]? = w.heap[b]?) : ∀ i, w'.frozen? ⟨b, i, none⟩ = false := fun i => by
  have := h i
  unfold World.frozen? at this ⊢
  rw [e]; exact this
theorem frzS {w : World} {b : Nat} (h : ∀ i, w.frozen? ⟨b, i, none⟩ = false) (j : Nat) (v : Value) : ∀ i, (w.setCell ⟨b, j, none⟩ v).frozen? ⟨b, i, none⟩ = false := fun i => by
  have := h i
  simpa using this
/-- The three parts of an answer. -/
def TriP (w : World) (b : Nat) (r : Pa) : Prop := Tri w b (.int .i64 r.an.kind) (.slice r.a1 r.an.out.length r.c1) (.slice r.a2 r.an.word.length r.c2)
/-- Two machines, a query, an answer, each in its block. -/
structure Tt (w W : World) (m : Mc) (a1 : Option Addr) (c1 : Nat) (a2 : Option Addr) (c2 : Nat) (h : Mc) (d1 : Option Addr) (e1 : Nat) (d2 : Option Addr) (e2 : Nat) (qb : Nat) (p : Pq) (ab : Nat) (r : Pa) : Prop where
  m : Box W w.heap.size m a1 c1 a2 c2
  h : Box W (w.heap.size + 1) h d1 e1 d2 e2
  q : Qb W qb p
  a : TriP W ab r
  qf : ∀ i, W.frozen? ⟨qb, i, none⟩ = false
  af : ∀ i, W.frozen? ⟨ab, i, none⟩ = false
  l1 : w.heap.size + 1 < qb
  l2 : qb < ab
  b : Below w.heap.size w W
section
variable {w W : World} {m : Mc} {a1 : Option Addr} {c1 : Nat} {a2 : Option Addr} {c2 : Nat} {h : Mc} {d1 : Option Addr} {e1 : Nat} {d2 : Option Addr} {e2 : Nat} {qb : Nat} {p : Pq} {ab : Nat} {r : Pa}
theorem Tt.lt (T : Tt w W m a1 c1 a2 c2 h d1 e1 d2 e2 qb p ab r) : ab < W.heap.size := World.block_lt_of_cell? W _ T.a.p0
theorem Tt.below {W' : World} (T : Tt w W m a1 c1 a2 c2 h d1 e1 d2 e2 qb p ab r) (hb : Below W.heap.size W W') : Tt w W' m a1 c1 a2 c2 h d1 e1 d2 e2 qb p ab r :=
  ⟨T.m.below hb, T.h.below hb, T.q.below hb, Tri.below T.a hb, fun i => frzO (T.qf i) hb (Nat.lt_trans T.l2 T.lt), fun i => frzO (T.af i) hb T.lt, T.l1, T.l2, bstep T.b hb⟩
theorem Tt.setQ (T : Tt w W m a1 c1 a2 c2 h d1 e1 d2 e2 qb p ab r) (p' : Pq) : Tt w (octo W qb p') m a1 c1 a2 c2 h d1 e1 d2 e2 qb p' ab r := by
  have l1 := T.l1
  have l2 := T.l2
  refine ⟨T.m.keepB (octo_heap W p' (by omega)), T.h.keepB (octo_heap W p' (by omega)), T.q.set p', Tri.keepB T.a (octo_heap W p' (by omega)), ?_, frzB T.af (octo_heap W p' (by omega)), l1, l2, octo_below T.b (by omega) p'⟩
  unfold octo
  exact frzS (frzS (frzS (frzS (frzS (frzS (frzS (frzS (T.qf) _ _) _ _) _ _) _ _) _ _) _ _) _ _) _ _
theorem Tt.setA (T : Tt w W m a1 c1 a2 c2 h d1 e1 d2 e2 qb p ab r) (r' : Pa) : Tt w (three W ab (.int .i64 r'.an.kind) (.slice r'.a1 r'.an.out.length r'.c1) (.slice r'.a2 r'.an.word.length r'.c2)) m a1 c1 a2 c2 h d1 e1 d2 e2 qb p ab r' := by
  have l1 := T.l1
  have l2 := T.l2
  refine ⟨T.m.keepB (three_heap W _ _ _ (by omega)), T.h.keepB (three_heap W _ _ _ (by omega)), T.q.keepB (three_heap W _ _ _ (by omega)), Tri.set T.a _ _ _, frzB T.qf (three_heap W _ _ _ (by omega)), ?_, l1, l2, three_below T.b (by omega) _ _ _⟩
  unfold three
  exact frzS (frzS (frzS T.af _ _) _ _) _ _
end

end Go.Proofs.Ytagoilabphmdfaa
