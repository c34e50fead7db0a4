/-
  Two machines copied in one statement, in whatever order: what holds at every point.
-/
import Derived.Test.YtknefgdcnacfoaaDTwoR
namespace Go.Proofs.Ytknefgdcnacfoaa
open Go.RowKit

def mOb (w : World) (x : Nat) : Prop := ∃ cs, w.heap[x]? = some (.cells cs 24)
theorem own_ne {w : World} {B x : Nat} {v : Value} {l : List Int} (h : OwnL .i64 3 w B v l) (hx : mOb w x) : ∀ j, v.ownBlock = some j → j ≠ x := fun j e c => by
  obtain ⟨h1, h2⟩ := h
  obtain ⟨cs, hx⟩ := hx
  rcases h2 with ⟨rfl, _⟩ | ⟨g, cap, cur, rfl, hg, hcell, rest⟩
  · cases e
  · have eg : g = j := Option.some.inj e
    rw [eg, c, hx] at hcell
    injection hcell with h3
    injection h3 with _ h4
    exact absurd h4 (by decide)
theorem mOb.lt {w : World} {x : Nat} (h : mOb w x) : x < w.heap.size := by
  obtain ⟨cs, h⟩ := h
  exact (Array.getElem?_eq_some_iff.1 h).1
theorem mOb.keep {w w' : World} {x : Nat} (h : mOb w x) (e : w'.heap[x]? = w.heap[x]?) : mOb w' x := by
  obtain ⟨cs, h⟩ := h
  exact ⟨cs, e.trans h⟩
theorem mOb.set {w : World} {x : Nat} (h : mOb w x) (i : Nat) (v : Value) : mOb (w.setCell ⟨x, i, none⟩ v) x := by
  obtain ⟨cs, h⟩ := h
  exact ⟨_, heap_setCell_same w x i cs _ v h⟩
theorem mOb.six {w : World} {x : Nat} (h : mOb w x) (m : Mc) (a1 : Option Addr) (c1 : Nat) (a2 : Option Addr) (c2 : Nat) : mOb (six w x m a1 c1 a2 c2) x := by
  unfold Go.Proofs.Ytknefgdcnacfoaa.six
  exact (((((h.set _ _).set _ _).set _ _).set _ _).set _ _).set _ _

structure T8 (w2 : World) (a0 : Act) (A B : Mc) (a1 : Option Addr) (c1 : Nat) (a2 : Option Addr) (c2 : Nat) (d1 : Option Addr) (e1 : Nat) (d2 : Option Addr) (e2 : Nat) (L : Array Bool) (a : Act) (w : World) (x y : Nat) (f1 : Option Addr) (g1 : Nat) (f2 : Option Addr) (g2 : Nat) (r1 : Option Addr) (s1 : Nat) (r2 : Option Addr) (s2 : Nat) : Prop where
  bl : Below w2.heap.size w2 w
  sz : a.tmps.size = a0.tmps.size
  df : a.defers = a0.defers
  ag : ∀ t, t ≠ 5 → t ≠ 6 → t ≠ 22 → t ≠ 23 → t ≠ 24 → t ≠ 25 → a.tmps[t]? = a0.tmps[t]?
  v0 : ls L 0 = true → a.eval (.tmp 22) = mval A a1 c1 a2 c2
  v2 : ls L 2 = true → a.eval (.tmp 24) = mval B d1 e1 d2 e2
  v1 : ls L 1 = true → a.eval (.tmp 23) = mval A f1 g1 f2 g2 ∧ OwnL .i64 3 w w2.heap.size (.slice f1 A.nx.length g1) A.nx ∧ OwnL .i64 3 w w2.heap.size (.slice f2 A.out.length g2) A.out
  v3 : ls L 3 = true → a.eval (.tmp 25) = mval B r1 s1 r2 s2 ∧ OwnL .i64 3 w w2.heap.size (.slice r1 B.nx.length s1) B.nx ∧ OwnL .i64 3 w w2.heap.size (.slice r2 B.out.length s2) B.out
  v4 : ls L 4 = true → a.eval (.tmp 5) = .pointer (some ⟨x, 0, none⟩) ∧ w2.heap.size ≤ x ∧ mOb w x
  z4 : ls L 4 = true → ls L 6 = false → w.heap[x]? = some zO
  v5 : ls L 5 = true → a.eval (.tmp 6) = .pointer (some ⟨y, 0, none⟩) ∧ w2.heap.size ≤ y ∧ mOb w y
  z5 : ls L 5 = true → ls L 7 = false → w.heap[y]? = some zO
  ne : ls L 4 = true → ls L 5 = true → x ≠ y
  c6 : ls L 6 = true → Box w x A f1 g1 f2 g2
  c7 : ls L 7 = true → Box w y B r1 s1 r2 s2
  o6 : ls L 6 = true → ls L 4 = true
  o7 : ls L 7 = true → ls L 5 = true
section
variable {w2 : World} {a0 : Act} {A B : Mc} {a1 : Option Addr} {c1 : Nat} {a2 : Option Addr} {c2 : Nat} {d1 : Option Addr} {e1 : Nat} {d2 : Option Addr} {e2 : Nat} {L : Array Bool} {a : Act} {w : World} {x y : Nat} {f1 : Option Addr} {g1 : Nat} {f2 : Option Addr} {g2 : Nat} {r1 : Option Addr} {s1 : Nat} {r2 : Option Addr} {s2 : Nat}
/-- The world grows. -/
theorem T8.grow {w' : World} (h : T8 w2 a0 A B a1 c1 a2 c2 d1 e1 d2 e2 L a w x y f1 g1 f2 g2 r1 s1 r2 s2) (hb : Below w.heap.size w w') : T8 w2 a0 A B a1 c1 a2 c2 d1 e1 d2 e2 L a w' x y f1 g1 f2 g2 r1 s1 r2 s2 :=
  ⟨h.bl.trans (hb.mono h.bl.size), h.sz, h.df, h.ag, h.v0, h.v2, fun l => ⟨(h.v1 l).1, (h.v1 l).2.1.grown hb, (h.v1 l).2.2.grown hb⟩, fun l => ⟨(h.v3 l).1, (h.v3 l).2.1.grown hb, (h.v3 l).2.2.grown hb⟩, fun l => ⟨(h.v4 l).1, (h.v4 l).2.1, (h.v4 l).2.2.keep (hb.block _ (h.v4 l).2.2.lt)⟩, fun l k => (hb.block _ (h.v4 l).2.2.lt).trans (h.z4 l k), fun l => ⟨(h.v5 l).1, (h.v5 l).2.1, (h.v5 l).2.2.keep (hb.block _ (h.v5 l).2.2.lt)⟩, fun l k => (hb.block _ (h.v5 l).2.2.lt).trans (h.z5 l k), h.ne, fun l => (h.c6 l).below hb, fun l => (h.c7 l).below hb, h.o6, h.o7⟩
theorem ag_put {d : Nat} {v : Value} (hd : d = 5 ∨ d = 6 ∨ d = 22 ∨ d = 23 ∨ d = 24 ∨ d = 25) (h : ∀ t, t ≠ 5 → t ≠ 6 → t ≠ 22 → t ≠ 23 → t ≠ 24 → t ≠ 25 → a.tmps[t]? = a0.tmps[t]?) : ∀ t, t ≠ 5 → t ≠ 6 → t ≠ 22 → t ≠ 23 → t ≠ 24 → t ≠ 25 → (a.put (some d) v).tmps[t]? = a0.tmps[t]? := fun t h1 h2 h3 h4 h5 h6 => by
  rw [← h t h1 h2 h3 h4 h5 h6]
  have : d ≠ t := by omega
  simp [Act.put, Array.getElem?_setIfInBounds_ne this]
theorem sz_put {d : Nat} {v : Value} (h : a.tmps.size = a0.tmps.size) : (a.put (some d) v).tmps.size = a0.tmps.size := by simp [Act.put, h]
theorem df_put {d : Nat} {v : Value} (h : a.defers = a0.defers) : (a.put (some d) v).defers = a0.defers := h

theorem T8.op0 (hL : 0 < L.size) (h0 : a0.tmps.size = 89) (h : T8 w2 a0 A B a1 c1 a2 c2 d1 e1 d2 e2 L a w x y f1 g1 f2 g2 r1 s1 r2 s2) : T8 w2 a0 A B a1 c1 a2 c2 d1 e1 d2 e2 (L.setIfInBounds 0 true) (a.put (some 22) (mval A a1 c1 a2 c2)) w x y f1 g1 f2 g2 r1 s1 r2 s2 := by
  have hz := h.sz
  refine ⟨h.bl, sz_put h.sz, df_put h.df, ag_put (by omega) h.ag, ?_, ?_, fun l => ?_, fun l => ?_, fun l => ?_, fun l k => h.z4 (by rw [ls_set hL] at l; simpa using l) (by rw [ls_set hL] at k; simpa using k), fun l => ?_, fun l k => h.z5 (by rw [ls_set hL] at l; simpa using l) (by rw [ls_set hL] at k; simpa using k), fun l k => h.ne (by rw [ls_set hL] at l; simpa using l) (by rw [ls_set hL] at k; simpa using k), fun l => h.c6 (by rw [ls_set hL] at l; simpa using l), fun l => h.c7 (by rw [ls_set hL] at l; simpa using l), fun l => ?_, fun l => ?_⟩
  · intro _; exact ev_same (by omega)
  · intro l; rw [ev_ne (by decide)]; exact h.v2 (by rw [ls_set hL] at l; simpa using l)
  · rw [ev_ne (by decide)]; exact h.v1 (by rw [ls_set hL] at l; simpa using l)
  · rw [ev_ne (by decide)]; exact h.v3 (by rw [ls_set hL] at l; simpa using l)
  · rw [ev_ne (by decide)]; exact h.v4 (by rw [ls_set hL] at l; simpa using l)
  · rw [ev_ne (by decide)]; exact h.v5 (by rw [ls_set hL] at l; simpa using l)
  · rw [ls_set hL]; have := h.o6 (by rw [ls_set hL] at l; simpa using l); simp [this]
  · rw [ls_set hL]; have := h.o7 (by rw [ls_set hL] at l; simpa using l); simp [this]
theorem T8.op2 (hL : 2 < L.size) (h0 : a0.tmps.size = 89) (h : T8 w2 a0 A B a1 c1 a2 c2 d1 e1 d2 e2 L a w x y f1 g1 f2 g2 r1 s1 r2 s2) : T8 w2 a0 A B a1 c1 a2 c2 d1 e1 d2 e2 (L.setIfInBounds 2 true) (a.put (some 24) (mval B d1 e1 d2 e2)) w x y f1 g1 f2 g2 r1 s1 r2 s2 := by
  have hz := h.sz
  refine ⟨h.bl, sz_put h.sz, df_put h.df, ag_put (by omega) h.ag, ?_, ?_, fun l => ?_, fun l => ?_, fun l => ?_, fun l k => h.z4 (by rw [ls_set hL] at l; simpa using l) (by rw [ls_set hL] at k; simpa using k), fun l => ?_, fun l k => h.z5 (by rw [ls_set hL] at l; simpa using l) (by rw [ls_set hL] at k; simpa using k), fun l k => h.ne (by rw [ls_set hL] at l; simpa using l) (by rw [ls_set hL] at k; simpa using k), fun l => h.c6 (by rw [ls_set hL] at l; simpa using l), fun l => h.c7 (by rw [ls_set hL] at l; simpa using l), fun l => ?_, fun l => ?_⟩
  · intro l; rw [ev_ne (by decide)]; exact h.v0 (by rw [ls_set hL] at l; simpa using l)
  · intro _; exact ev_same (by omega)
  · rw [ev_ne (by decide)]; exact h.v1 (by rw [ls_set hL] at l; simpa using l)
  · rw [ev_ne (by decide)]; exact h.v3 (by rw [ls_set hL] at l; simpa using l)
  · rw [ev_ne (by decide)]; exact h.v4 (by rw [ls_set hL] at l; simpa using l)
  · rw [ev_ne (by decide)]; exact h.v5 (by rw [ls_set hL] at l; simpa using l)
  · rw [ls_set hL]; have := h.o6 (by rw [ls_set hL] at l; simpa using l); simp [this]
  · rw [ls_set hL]; have := h.o7 (by rw [ls_set hL] at l; simpa using l); simp [this]
theorem T8.op1 {F1 F2 : Option Addr} {G1 G2 : Nat} (hL : 1 < L.size) (h0 : a0.tmps.size = 89) (h6 : ls L 6 = false) (h7 : ls L 7 = false) (h : T8 w2 a0 A B a1 c1 a2 c2 d1 e1 d2 e2 L a w x y f1 g1 f2 g2 r1 s1 r2 s2) (o1 : OwnL .i64 3 w w2.heap.size (.slice F1 A.nx.length G1) A.nx) (o2 : OwnL .i64 3 w w2.heap.size (.slice F2 A.out.length G2) A.out) : T8 w2 a0 A B a1 c1 a2 c2 d1 e1 d2 e2 (L.setIfInBounds 1 true) (a.put (some 23) (mval A F1 G1 F2 G2)) w x y F1 G1 F2 G2 r1 s1 r2 s2 := by
  have hz := h.sz
  have n6 : ls (L.setIfInBounds 1 true) 6 = false := by rw [ls_set hL]; simpa using h6
  have n7 : ls (L.setIfInBounds 1 true) 7 = false := by rw [ls_set hL]; simpa using h7
  refine ⟨h.bl, sz_put h.sz, df_put h.df, ag_put (by omega) h.ag, fun l => ?_, fun l => ?_, ?_, ?_, fun l => ?_, fun l k => h.z4 (by rw [ls_set hL] at l; simpa using l) (by rw [ls_set hL] at k; simpa using k), fun l => ?_, fun l k => h.z5 (by rw [ls_set hL] at l; simpa using l) (by rw [ls_set hL] at k; simpa using k), fun l k => h.ne (by rw [ls_set hL] at l; simpa using l) (by rw [ls_set hL] at k; simpa using k), fun l => (by rw [n6] at l; cases l), fun l => (by rw [n7] at l; cases l), fun l => (by rw [n6] at l; cases l), fun l => (by rw [n7] at l; cases l)⟩
  · rw [ev_ne (by decide)]; exact h.v0 (by rw [ls_set hL] at l; simpa using l)
  · rw [ev_ne (by decide)]; exact h.v2 (by rw [ls_set hL] at l; simpa using l)
  · intro _; exact ⟨ev_same (by omega), o1, o2⟩
  · intro l; rw [ev_ne (by decide)]; exact h.v3 (by rw [ls_set hL] at l; simpa using l)
  · rw [ev_ne (by decide)]; exact h.v4 (by rw [ls_set hL] at l; simpa using l)
  · rw [ev_ne (by decide)]; exact h.v5 (by rw [ls_set hL] at l; simpa using l)
theorem T8.op3 {R1 R2 : Option Addr} {S1 S2 : Nat} (hL : 3 < L.size) (h0 : a0.tmps.size = 89) (h6 : ls L 6 = false) (h7 : ls L 7 = false) (h : T8 w2 a0 A B a1 c1 a2 c2 d1 e1 d2 e2 L a w x y f1 g1 f2 g2 r1 s1 r2 s2) (o1 : OwnL .i64 3 w w2.heap.size (.slice R1 B.nx.length S1) B.nx) (o2 : OwnL .i64 3 w w2.heap.size (.slice R2 B.out.length S2) B.out) : T8 w2 a0 A B a1 c1 a2 c2 d1 e1 d2 e2 (L.setIfInBounds 3 true) (a.put (some 25) (mval B R1 S1 R2 S2)) w x y f1 g1 f2 g2 R1 S1 R2 S2 := by
  have hz := h.sz
  have n6 : ls (L.setIfInBounds 3 true) 6 = false := by rw [ls_set hL]; simpa using h6
  have n7 : ls (L.setIfInBounds 3 true) 7 = false := by rw [ls_set hL]; simpa using h7
  refine ⟨h.bl, sz_put h.sz, df_put h.df, ag_put (by omega) h.ag, fun l => ?_, fun l => ?_, ?_, ?_, fun l => ?_, fun l k => h.z4 (by rw [ls_set hL] at l; simpa using l) (by rw [ls_set hL] at k; simpa using k), fun l => ?_, fun l k => h.z5 (by rw [ls_set hL] at l; simpa using l) (by rw [ls_set hL] at k; simpa using k), fun l k => h.ne (by rw [ls_set hL] at l; simpa using l) (by rw [ls_set hL] at k; simpa using k), fun l => (by rw [n6] at l; cases l), fun l => (by rw [n7] at l; cases l), fun l => (by rw [n6] at l; cases l), fun l => (by rw [n7] at l; cases l)⟩
  · rw [ev_ne (by decide)]; exact h.v0 (by rw [ls_set hL] at l; simpa using l)
  · rw [ev_ne (by decide)]; exact h.v2 (by rw [ls_set hL] at l; simpa using l)
  · intro l; rw [ev_ne (by decide)]; exact h.v1 (by rw [ls_set hL] at l; simpa using l)
  · intro _; exact ⟨ev_same (by omega), o1, o2⟩
  · rw [ev_ne (by decide)]; exact h.v4 (by rw [ls_set hL] at l; simpa using l)
  · rw [ev_ne (by decide)]; exact h.v5 (by rw [ls_set hL] at l; simpa using l)
theorem T8.op4 (hL : 4 < L.size) (h0 : a0.tmps.size = 89) (h6 : ls L 6 = false) (h7 : ls L 7 = false) (h : T8 w2 a0 A B a1 c1 a2 c2 d1 e1 d2 e2 L a w x y f1 g1 f2 g2 r1 s1 r2 s2) : T8 w2 a0 A B a1 c1 a2 c2 d1 e1 d2 e2 (L.setIfInBounds 4 true) (a.put (some 5) (.pointer (some ⟨w.heap.size, 0, none⟩))) (w.alloc zO) w.heap.size y f1 g1 f2 g2 r1 s1 r2 s2 := by
  have hz := h.sz
  have hb := h.bl.size
  have G := h.grow (ballo w zO)
  have nw : (w.alloc zO).heap[w.heap.size]? = some zO := heap_alloc_new w zO
  have n6 : ls (L.setIfInBounds 4 true) 6 = false := by rw [ls_set hL]; simpa using h6
  have n7 : ls (L.setIfInBounds 4 true) 7 = false := by rw [ls_set hL]; simpa using h7
  refine ⟨G.bl, sz_put h.sz, df_put h.df, ag_put (by omega) h.ag, fun l => ?_, fun l => ?_, fun l => ?_, fun l => ?_, ?_, ?_, ?_, ?_, ?_, fun l => (by rw [n6] at l; cases l), fun l => (by rw [n7] at l; cases l), fun l => (by rw [n6] at l; cases l), fun l => (by rw [n7] at l; cases l)⟩
  · rw [ev_ne (by decide)]; exact G.v0 (by rw [ls_set hL] at l; simpa using l)
  · rw [ev_ne (by decide)]; exact G.v2 (by rw [ls_set hL] at l; simpa using l)
  · rw [ev_ne (by decide)]; exact G.v1 (by rw [ls_set hL] at l; simpa using l)
  · rw [ev_ne (by decide)]; exact G.v3 (by rw [ls_set hL] at l; simpa using l)
  · intro _; exact ⟨ev_same (by omega), hb, _, nw⟩
  · intro _ _; exact nw
  · intro l; rw [ev_ne (by decide)]; exact G.v5 (by rw [ls_set hL] at l; simpa using l)
  · intro l k; exact G.z5 (by rw [ls_set hL] at l; simpa using l) (by rw [ls_set hL] at k; simpa using k)
  · intro _ l; have := (h.v5 (by rw [ls_set hL] at l; simpa using l)).2.2.lt; omega
theorem T8.op5 (hL : 5 < L.size) (h0 : a0.tmps.size = 89) (h6 : ls L 6 = false) (h7 : ls L 7 = false) (h : T8 w2 a0 A B a1 c1 a2 c2 d1 e1 d2 e2 L a w x y f1 g1 f2 g2 r1 s1 r2 s2) : T8 w2 a0 A B a1 c1 a2 c2 d1 e1 d2 e2 (L.setIfInBounds 5 true) (a.put (some 6) (.pointer (some ⟨w.heap.size, 0, none⟩))) (w.alloc zO) x w.heap.size f1 g1 f2 g2 r1 s1 r2 s2 := by
  have hz := h.sz
  have hb := h.bl.size
  have G := h.grow (ballo w zO)
  have nw : (w.alloc zO).heap[w.heap.size]? = some zO := heap_alloc_new w zO
  have n6 : ls (L.setIfInBounds 5 true) 6 = false := by rw [ls_set hL]; simpa using h6
  have n7 : ls (L.setIfInBounds 5 true) 7 = false := by rw [ls_set hL]; simpa using h7
  refine ⟨G.bl, sz_put h.sz, df_put h.df, ag_put (by omega) h.ag, fun l => ?_, fun l => ?_, fun l => ?_, fun l => ?_, ?_, ?_, ?_, ?_, ?_, fun l => (by rw [n6] at l; cases l), fun l => (by rw [n7] at l; cases l), fun l => (by rw [n6] at l; cases l), fun l => (by rw [n7] at l; cases l)⟩
  · rw [ev_ne (by decide)]; exact G.v0 (by rw [ls_set hL] at l; simpa using l)
  · rw [ev_ne (by decide)]; exact G.v2 (by rw [ls_set hL] at l; simpa using l)
  · rw [ev_ne (by decide)]; exact G.v1 (by rw [ls_set hL] at l; simpa using l)
  · rw [ev_ne (by decide)]; exact G.v3 (by rw [ls_set hL] at l; simpa using l)
  · intro l; rw [ev_ne (by decide)]; exact G.v4 (by rw [ls_set hL] at l; simpa using l)
  · intro l k; exact G.z4 (by rw [ls_set hL] at l; simpa using l) (by rw [ls_set hL] at k; simpa using k)
  · intro _; exact ⟨ev_same (by omega), hb, _, nw⟩
  · intro _ _; exact nw
  · intro l _; have := (h.v4 (by rw [ls_set hL] at l; simpa using l)).2.2.lt; omega
theorem T8.op6 (hL : 6 < L.size) (l4 : ls L 4 = true) (l5 : ls L 5 = true) (l1 : ls L 1 = true) (l3 : ls L 3 = true) (h : T8 w2 a0 A B a1 c1 a2 c2 d1 e1 d2 e2 L a w x y f1 g1 f2 g2 r1 s1 r2 s2) : T8 w2 a0 A B a1 c1 a2 c2 d1 e1 d2 e2 (L.setIfInBounds 6 true) a (six w x A f1 g1 f2 g2) x y f1 g1 f2 g2 r1 s1 r2 s2 := by
  have K : ∀ j, j ≠ x → (six w x A f1 g1 f2 g2).heap[j]? = w.heap[j]? := fun j hj => six_heap _ _ _ _ _ _ hj
  have hx := (h.v4 l4).2.2
  have hy := (h.v5 l5).2.2
  have hxy := h.ne l4 l5
  have bx := (h.v4 l4).2.1
  refine ⟨six_below h.bl bx _ _ _ _ _, h.sz, h.df, h.ag, fun l => h.v0 (by rw [ls_set hL] at l; simpa using l), fun l => h.v2 (by rw [ls_set hL] at l; simpa using l), fun l => ⟨(h.v1 l1).1, (h.v1 l1).2.1.keep fun j e => K j (own_ne (h.v1 l1).2.1 hx j e), (h.v1 l1).2.2.keep fun j e => K j (own_ne (h.v1 l1).2.2 hx j e)⟩, fun l => ⟨(h.v3 l3).1, (h.v3 l3).2.1.keep fun j e => K j (own_ne (h.v3 l3).2.1 hx j e), (h.v3 l3).2.2.keep fun j e => K j (own_ne (h.v3 l3).2.2 hx j e)⟩, ?_, ?_, ?_, ?_, fun _ _ => hxy, ?_, ?_, fun _ => ?_, fun _ => ?_⟩
  · intro _; exact ⟨(h.v4 l4).1, (h.v4 l4).2.1, hx.six _ _ _ _ _⟩
  · intro _ k; rw [ls_set hL] at k; simp at k
  · intro _; exact ⟨(h.v5 l5).1, (h.v5 l5).2.1, hy.keep (K y (Ne.symm hxy))⟩
  · intro _ k; exact (K y (Ne.symm hxy)).trans (h.z5 l5 (by rw [ls_set hL] at k; simpa using k))
  · intro _
    cases h6 : ls L 6
    · exact (zbox (h.z4 l4 h6)).six _ _ _ _ _
    · exact (h.c6 h6).six _ _ _ _ _
  · intro l; exact (h.c7 (by rw [ls_set hL] at l; simpa using l)).keep (K y (Ne.symm hxy))
  · rw [ls_set hL, l4]; simp
  · rw [ls_set hL, l5]; simp
theorem T8.op7 (hL : 7 < L.size) (l4 : ls L 4 = true) (l5 : ls L 5 = true) (l1 : ls L 1 = true) (l3 : ls L 3 = true) (h : T8 w2 a0 A B a1 c1 a2 c2 d1 e1 d2 e2 L a w x y f1 g1 f2 g2 r1 s1 r2 s2) : T8 w2 a0 A B a1 c1 a2 c2 d1 e1 d2 e2 (L.setIfInBounds 7 true) a (six w y B r1 s1 r2 s2) x y f1 g1 f2 g2 r1 s1 r2 s2 := by
  have K : ∀ j, j ≠ y → (six w y B r1 s1 r2 s2).heap[j]? = w.heap[j]? := fun j hj => six_heap _ _ _ _ _ _ hj
  have hx := (h.v4 l4).2.2
  have hy := (h.v5 l5).2.2
  have hxy := h.ne l4 l5
  have bx := (h.v5 l5).2.1
  refine ⟨six_below h.bl bx _ _ _ _ _, h.sz, h.df, h.ag, fun l => h.v0 (by rw [ls_set hL] at l; simpa using l), fun l => h.v2 (by rw [ls_set hL] at l; simpa using l), fun l => ⟨(h.v1 l1).1, (h.v1 l1).2.1.keep fun j e => K j (own_ne (h.v1 l1).2.1 hy j e), (h.v1 l1).2.2.keep fun j e => K j (own_ne (h.v1 l1).2.2 hy j e)⟩, fun l => ⟨(h.v3 l3).1, (h.v3 l3).2.1.keep fun j e => K j (own_ne (h.v3 l3).2.1 hy j e), (h.v3 l3).2.2.keep fun j e => K j (own_ne (h.v3 l3).2.2 hy j e)⟩, ?_, ?_, ?_, ?_, fun _ _ => hxy, ?_, ?_, fun _ => ?_, fun _ => ?_⟩
  · intro _; exact ⟨(h.v4 l4).1, (h.v4 l4).2.1, hx.keep (K x hxy)⟩
  · intro _ k; exact (K x hxy).trans (h.z4 l4 (by rw [ls_set hL] at k; simpa using k))
  · intro _; exact ⟨(h.v5 l5).1, (h.v5 l5).2.1, hy.six _ _ _ _ _⟩
  · intro _ k; rw [ls_set hL] at k; simp at k
  · intro l; exact (h.c6 (by rw [ls_set hL] at l; simpa using l)).keep (K x hxy)
  · intro _
    cases h7 : ls L 7
    · exact (zbox (h.z5 l5 h7)).six _ _ _ _ _
    · exact (h.c7 h7).six _ _ _ _ _
  · rw [ls_set hL, l4]; simp
  · rw [ls_set hL, l5]; simp
end
end Go.Proofs.Ytknefgdcnacfoaa
