/-
  Some texts of this seat, one behind the other.
-/
import Derived.BigQuiet
import Derived.Deep.SlicePairs
import Derived.Deep.Slices
import Derived.Lib.ItoaNum
import Derived.Test.YtlcablkhomnieaaK1
import Derived.Test.YtlcablkhomnieaaK2
import Derived.Test.YtlcablkhomnieaaK5
/-
  Queries and answers, in plain words.
-/
namespace Go.Proofs.Ytlcablkhomnieaa

/-- An answer. -/
structure An where
  kind : Int
  out : List Int
  word : List Int
def an0 : An := ⟨0, [], []⟩
/-- A query. -/
structure Qy where
  kind : Int
  word : List Int
  hyp : Mc

/-- Do all numbers lie from 0 to below b? -/
def inB (b : Int) (l : List Int) : Bool := l.all fun x => decide (0 ≤ x ∧ x < b)
/-- What Check tells of a word's list. -/
def wdE (l : List Int) (k : Int) : Int := (chkV l.length (fun i => l.getD i 0) k).2
/-- May it be answered? (P10.2) -/
def chkA (q : Qy) (a : An) : Int :=
  if q.kind ≠ 1 ∧ q.kind ≠ 2 then 30
  else if q.kind = 2 then (if a.out.length = 0 ∧ ((a.kind = 2 ∧ a.word.length = 0) ∨ (a.kind = 3 ∧ wdE a.word q.hyp.k = 0)) then 0 else 100)
  else if a.kind = 1 ∧ a.word.length = 0 ∧ ((q.hyp.kind = 1 ∧ a.out.length = 1 ∧ inB 2 a.out = true) ∨ (q.hyp.kind = 2 ∧ a.out.length = q.word.length ∧ inB q.hyp.o a.out = true)) then 0 else 100

/-- Are these more answers, or numbers in them, than so many? -/
def hugA (most : Int) : List An → Int → Bool
  | [], _ => false
  | a :: l, n => if most - n < (a.out.length : Int) then true else if most - (n + (a.out.length : Int)) < (a.word.length : Int) then true else hugA most l (n + (a.out.length : Int) + (a.word.length : Int))
def hugV (most : Int) (l : List An) : Bool := if most < (l.length : Int) then true else hugA most l 0
/-- An answer's line. (P10.3) -/
def nmL (l : List Int) : List UInt8 := l.flatMap fun x => 32 :: Lib.itoa x
def lnA (a : An) : List UInt8 :=
  if a.kind = 1 then 111 :: nmL a.out ++ [10]
  else if a.kind = 2 then [121, 10]
  else if a.kind = 3 then 110 :: nmL a.word ++ [10]
  else []
def shA (l : List An) : List UInt8 := l.flatMap lnA

end Go.Proofs.Ytlcablkhomnieaa

/-
  How an answer, a slice of answers, a query that came in are opened.
-/
namespace Go.Proofs.Ytlcablkhomnieaa
open Go.ChangeShapes Go.WideShapes Go.ChangeAt Go.RowKit Go.Deep

/-- An answer as it lies: where its two lists are. -/
structure Pa where
  an : An
  a1 : Option Addr
  c1 : Nat
  a2 : Option Addr
  c2 : Nat
/-- Its three cells. -/
def paC (p : Pa) : List Value := [.int .i64 p.an.kind, .slice p.a1 p.an.out.length p.c1, .slice p.a2 p.an.word.length p.c2]
def paV (p : Pa) : Value := .agg #[.int .i64 p.an.kind, .slice p.a1 p.an.out.length p.c1, .slice p.a2 p.an.word.length p.c2]
/-- Its lists read as they say. -/
structure RdPa (w : World) (p : Pa) : Prop where
  out : RdL .i64 w p.a1 p.an.out
  word : RdL .i64 w p.a2 p.an.word
/-- A slice of answers reads so. -/
structure RdPs (w : World) (a : Option Addr) (l : List Pa) : Prop where
  top : l = [] ∨ ∃ b off, a = some ⟨b, off, none⟩ ∧ ∀ i (h : i < l.length), ∀ j, j < 3 → w.cell? ⟨b, off + (i * 3 + j), none⟩ = (paC l[i])[j]?
  row : ∀ p ∈ l, RdPa w p
/-- An answer that came in. -/
structure ArgPa (w : World) (p : Pa) : Prop where
  out : ArgL .i64 0 w p.a1 p.c1 p.an.out
  word : ArgL .i64 0 w p.a2 p.c2 p.an.word
  kind : Fits p.an.kind
theorem ArgPa.rd {w : World} {p : Pa} (h : ArgPa w p) : RdPa w p := ⟨h.out.rd, h.word.rd⟩
/-- A slice of answers that came in. -/
structure ArgPs (w : World) (a : Option Addr) (c : Nat) (l : List Pa) : Prop where
  rd : RdPs w a l
  each : ∀ p ∈ l, ArgPa w p
  nil : a = none → l.length = 0 ∧ c = 0
  le : l.length ≤ c
  cap : c ≤ maxLen

theorem fitI {w : World} {H : Type} {enc : TypeId × Value → H} {base : Nat} {spare : Nat → Bool} {held : Bool} {n : Nat} {v : Value} {y : DataW H × List MemPlace} (h : DataW.trod enc Try.prog w base spare held n 3 [v] = some y) : ∃ x, v = .int .i64 x ∧ Fits x := by
  obtain ⟨x, e, -, hw⟩ := DataW.trod_int Try.underlying3 h
  cases e
  exact ⟨x, rfl, fits_of hw⟩
theorem sliI {w : World} {H : Type} {enc : TypeId × Value → H} {n : Nat} {v : Value} {y : DataW H × List MemPlace} (h : DataW.trod enc Try.prog w 0 (fun _ => true) true n 29 [v] = some y) : ∃ a l c, v = .slice a (List.length l) c ∧ ArgL .i64 0 w a c l := by
  obtain ⟨a, len, c, e⟩ : ∃ a l c, [v] = [.slice a l c] := by
    rcases open_slice Try.underlying29 h with ⟨hcs, _⟩ | ⟨a', len', cap', m, n, D, Pl, hcs, _⟩ <;> exact ⟨_, _, _, hcs⟩
  cases e
  obtain ⟨l, rfl, A⟩ := open_argL (q := .i64) (k := 0) (d := y.1) (p := y.2) Try.underlying29 Try.underlying3 (by kernel_rfl) ⟨n, h⟩ fun es sp _ => by simp
  exact ⟨a, l, c, rfl, A⟩

set_option maxRecDepth 100000 in
/-- Three cells that are an answer. -/
theorem open_three {w : World} {H : Type} {enc : TypeId × Value → H} {n : Nat} {cs : List Value} {x : DataW H × List MemPlace} (h : DataW.trod enc Try.prog w 0 (fun _ => true) true n 125 cs = some x) : ∃ p : Pa, cs = paC p ∧ ArgPa w p := by
  obtain ⟨xs, k, -, -, hlen, hxl, hf⟩ := DataW.trod_struct Try.underlying125 h
  have h3 : Try.prog.cellsOf 125 = 3 := by kernel_rfl
  rw [h3] at hlen
  match xs, hxl, cs, hlen with
  | [y0, y1, y2], _, [v0, v1, v2], _ =>
    have g0 := hf 0 _ rfl
    have g1 := hf 1 _ rfl
    have g2 := hf 2 _ rfl
    simp only [List.getElem?_cons_zero, List.getElem?_cons_succ] at g0 g1 g2
    obtain ⟨k0, rfl, f0⟩ := fitI g0
    obtain ⟨a1, l1, d1, rfl, A1⟩ := sliI g1
    obtain ⟨a2, l2, d2, rfl, A2⟩ := sliI g2
    exact ⟨⟨⟨k0, l1, l2⟩, a1, d1, a2, d2⟩, rfl, A1, A2, f0⟩

set_option maxRecDepth 100000 in
theorem open_answer {H : Type} {enc : TypeId × Value → H} {W : World} {r : Reach} {b0 : Nat} {v : Value} {d : DataW H} {p : List MemPlace} (hv : Value.okWide Try.prog W r b0 125 v)
    (h : DataW.Trod enc Try.prog W 0 (fun _ => true) true 125 v d p) : ∃ q : Pa, v = paV q ∧ ArgPa W q := by
  obtain ⟨cs, rfl, -⟩ := okWide_struct Try.underlying125 hv
  obtain ⟨fuel, hf⟩ := h
  obtain ⟨q, hq, A⟩ := open_three hf
  refine ⟨q, ?_, A⟩
  have e : cs.toList = paC q := hq
  unfold paV
  congr 1
  exact Array.toList_inj.1 e

/-! ### Queries -/
/-- A query as it lies. -/
structure Pq where
  q : Qy
  aw : Option Addr
  cw : Nat
  a1 : Option Addr
  c1 : Nat
  a2 : Option Addr
  c2 : Nat
def pqC (p : Pq) : List Value := [.int .i64 p.q.kind, .slice p.aw p.q.word.length p.cw, .int .i64 p.q.hyp.kind, .int .i64 p.q.hyp.k, .int .i64 p.q.hyp.o, .int .i64 p.q.hyp.n, .slice p.a1 p.q.hyp.nx.length p.c1, .slice p.a2 p.q.hyp.out.length p.c2]
def pqV (p : Pq) : Value := .agg #[.int .i64 p.q.kind, .slice p.aw p.q.word.length p.cw, .int .i64 p.q.hyp.kind, .int .i64 p.q.hyp.k, .int .i64 p.q.hyp.o, .int .i64 p.q.hyp.n, .slice p.a1 p.q.hyp.nx.length p.c1, .slice p.a2 p.q.hyp.out.length p.c2]
/-- A query that came in. -/
structure ArgPq (w : World) (p : Pq) : Prop where
  word : ArgL .i64 0 w p.aw p.cw p.q.word
  nx : ArgL .i64 0 w p.a1 p.c1 p.q.hyp.nx
  out : ArgL .i64 0 w p.a2 p.c2 p.q.hyp.out
  kind : Fits p.q.kind
  hk : Fits p.q.hyp.kind
  k : Fits p.q.hyp.k
  o : Fits p.q.hyp.o
  n : Fits p.q.hyp.n
set_option maxRecDepth 100000 in
theorem open_hyp {w : World} {H : Type} {enc : TypeId × Value → H} {n : Nat} {cs : List Value} {x : DataW H × List MemPlace} (h : DataW.trod enc Try.prog w 0 (fun _ => true) true n 31 cs = some x) :
    ∃ (m : Mc) (a1 : Option Addr) (c1 : Nat) (a2 : Option Addr) (c2 : Nat), cs = [.int .i64 m.kind, .int .i64 m.k, .int .i64 m.o, .int .i64 m.n, .slice a1 m.nx.length c1, .slice a2 m.out.length c2] ∧ ArgL .i64 0 w a1 c1 m.nx ∧ ArgL .i64 0 w a2 c2 m.out ∧ Fits m.kind ∧ Fits m.k ∧ Fits m.o ∧ Fits m.n := by
  obtain ⟨xs, k, -, -, hlen, hxl, hf⟩ := DataW.trod_struct Try.underlying31 h
  have h6 : Try.prog.cellsOf 31 = 6 := by kernel_rfl
  rw [h6] at hlen
  match xs, hxl, cs, hlen with
  | [y0, y1, y2, y3, y4, y5], _, [v0, v1, v2, v3, v4, v5], _ =>
    have g0 := hf 0 _ rfl
    have g1 := hf 1 _ rfl
    have g2 := hf 2 _ rfl
    have g3 := hf 3 _ rfl
    have g4 := hf 4 _ rfl
    have g5 := hf 5 _ rfl
    simp only [List.getElem?_cons_zero, List.getElem?_cons_succ] at g0 g1 g2 g3 g4 g5
    obtain ⟨k0, rfl, f0⟩ := fitI g0
    obtain ⟨k1, rfl, f1⟩ := fitI g1
    obtain ⟨k2, rfl, f2⟩ := fitI g2
    obtain ⟨k3, rfl, f3⟩ := fitI g3
    obtain ⟨a1, l1, d1, rfl, A1⟩ := sliI g4
    obtain ⟨a2, l2, d2, rfl, A2⟩ := sliI g5
    exact ⟨⟨k0, k1, k2, k3, l1, l2⟩, a1, d1, a2, d2, rfl, A1, A2, f0, f1, f2, f3⟩
set_option maxRecDepth 100000 in
theorem open_query {H : Type} {enc : TypeId × Value → H} {W : World} {r : Reach} {b0 : Nat} {v : Value} {d : DataW H} {p : List MemPlace} (hv : Value.okWide Try.prog W r b0 122 v)
    (h : DataW.Trod enc Try.prog W 0 (fun _ => true) true 122 v d p) : ∃ q : Pq, v = pqV q ∧ ArgPq W q := by
  obtain ⟨cs, rfl, -⟩ := okWide_struct Try.underlying122 hv
  obtain ⟨fuel, hf⟩ := h
  obtain ⟨xs, k, -, -, hlen, hxl, hff⟩ := DataW.trod_struct Try.underlying122 hf
  have h8 : Try.prog.cellsOf 122 = 8 := by kernel_rfl
  rw [h8] at hlen
  have hl : cs.toList.length = 8 := hlen
  obtain ⟨cl⟩ := cs
  match xs, hxl, cl, hl with
  | [y0, y1, y2], _, [v0, v1, v2, v3, v4, v5, v6, v7], _ =>
    have g0 := hff 0 _ rfl
    have g1 := hff 1 _ rfl
    have g2 := hff 2 _ rfl
    simp only [List.getElem?_cons_zero, List.getElem?_cons_succ] at g0 g1 g2
    obtain ⟨k0, rfl, f0⟩ := fitI g0
    obtain ⟨aw, lw, dw, rfl, Aw⟩ := sliI g1
    obtain ⟨m, a1, c1, a2, c2, e, A1, A2, f1, f2, f3, f4⟩ := open_hyp g2
    have e' : [v2, v3, v4, v5, v6, v7] = [.int .i64 m.kind, .int .i64 m.k, .int .i64 m.o, .int .i64 m.n, .slice a1 m.nx.length c1, .slice a2 m.out.length c2] := e
    cases e'
    exact ⟨⟨⟨k0, lw, m⟩, aw, dw, a1, c1, a2, c2⟩, rfl, Aw, A1, A2, f0, f1, f2, f3, f4⟩

end Go.Proofs.Ytlcablkhomnieaa

/-
  The reference's Huge and Check of layer 10.
-/
namespace Go.Proofs.Ytlcablkhomnieaa
open Go.RowKit

/-- The cells of answer i. -/
theorem RdPs.at {w : World} {a : Option Addr} {l : List Pa} (h : RdPs w a l) {i : Nat} (hi : i < l.length) :
    ∃ b off, a = some ⟨b, off, none⟩ ∧ ∀ i (h : i < l.length), w.cell? ⟨b, off + i * 3, none⟩ = some (.int .i64 l[i].an.kind) ∧ w.cell? ⟨b, off + i * 3 + 1, none⟩ = some (.slice l[i].a1 l[i].an.out.length l[i].c1) ∧ w.cell? ⟨b, off + i * 3 + 2, none⟩ = some (.slice l[i].a2 l[i].an.word.length l[i].c2) := by
  rcases h.top with rfl | ⟨b, off, e, hc⟩
  · simp at hi
  · refine ⟨b, off, e, fun j hj => ?_⟩
    have h0 := hc j hj 0 (by omega)
    have h1 := hc j hj 1 (by omega)
    have h2 := hc j hj 2 (by omega)
    simp only [paC, List.getElem?_cons_zero, List.getElem?_cons_succ, Nat.add_zero] at h0 h1 h2
    exact ⟨h0, by rw [Nat.add_assoc]; exact h1, by rw [Nat.add_assoc]; exact h2⟩
def anL (l : List Pa) : List An := l.map Pa.an
theorem anL_drop {l : List Pa} {i : Nat} (h : i < l.length) : (anL l).drop i = l[i].an :: (anL l).drop (i + 1) := by
  unfold anL
  rw [← List.map_drop, ← List.map_drop, List.drop_eq_getElem_cons h, List.map_cons]

end Go.Proofs.Ytlcablkhomnieaa

/-
  Answers and queries in cells.
-/
namespace Go.Proofs.Ytlcablkhomnieaa
open Go.RowKit

/-- Three cells are set. -/
def three (w : World) (b : Nat) (v0 v1 v2 : Value) : World := ((w.setCell ⟨b, 0, none⟩ v0).setCell ⟨b, 1, none⟩ v1).setCell ⟨b, 2, none⟩ v2
theorem three_heap (w : World) {b : Nat} (v0 v1 v2 : Value) {j : Nat} (hj : j ≠ b) : (three w b v0 v1 v2).heap[j]? = w.heap[j]? := by
  unfold three
  rw [Below.heap_setCell _ _ _ _ (by simpa using hj), Below.heap_setCell _ _ _ _ (by simpa using hj), Below.heap_setCell _ _ _ _ (by simpa using hj)]
theorem three_below {w w1 : World} {B b : Nat} (h : Below B w w1) (hb : B ≤ b) (v0 v1 v2 : Value) : Below B w (three w1 b v0 v1 v2) :=
  ((h.setCell (p := ⟨b, 0, none⟩) hb _).setCell (p := ⟨b, 1, none⟩) hb _).setCell (p := ⟨b, 2, none⟩) hb _
/-- Three cells that may be set. -/
structure Tri (w : World) (b : Nat) (v0 v1 v2 : Value) : Prop where
  p0 : w.cell? ⟨b, 0, none⟩ = some v0
  p1 : w.cell? ⟨b, 1, none⟩ = some v1
  p2 : w.cell? ⟨b, 2, none⟩ = some v2
theorem Tri.set {w : World} {b : Nat} {u0 u1 u2 : Value} (h : Tri w b u0 u1 u2) (v0 v1 v2 : Value) : Tri (three w b v0 v1 v2) b v0 v1 v2 := by
  have ot : ∀ (u : World) (i j : Nat) (v : Value), i ≠ j → (u.setCell ⟨b, i, none⟩ v).cell? ⟨b, j, none⟩ = u.cell? ⟨b, j, none⟩ := fun u i j v hi => World.cell?_setCell_other (w := u) (a := ⟨b, i, none⟩) (b := ⟨b, j, none⟩) (v := v) (h := fun e => hi (by injection e with _ e2 _))
  have sm : ∀ (u : World) (i : Nat) (v x : Value), u.cell? ⟨b, i, none⟩ = some x → (u.setCell ⟨b, i, none⟩ v).cell? ⟨b, i, none⟩ = some v := fun u i v x hx => World.cell?_setCell_same u ⟨b, i, none⟩ v hx
  unfold three
  constructor
  · rw [ot _ 2 0 _ (by decide), ot _ 1 0 _ (by decide)]; exact sm _ 0 _ _ h.p0
  · rw [ot _ 2 1 _ (by decide)]; exact sm _ 1 _ _ ((ot _ 0 1 _ (by decide)).trans h.p1)
  · exact sm _ 2 _ _ ((ot _ 1 2 _ (by decide)).trans ((ot _ 0 2 _ (by decide)).trans h.p2))
theorem frzN (w : World) {b i : Nat} (h : w.heap.size ≤ b) : w.frozen? ⟨b, i, none⟩ = false := by
  unfold World.frozen?
  rw [Array.getElem?_eq_none h]
theorem frzO {w w' : World} {B b i : Nat} (h : w.frozen? ⟨b, i, none⟩ = false) (hb : Below B w w') (hB : b < B) : w'.frozen? ⟨b, i, none⟩ = false := by
  have := hb.block b hB
  unfold World.frozen? at h ⊢
  rw [this]; exact h
theorem ownKeep {q : IntKind} {t : TypeId} {w : World} {B : Nat} {v : Value} {l : List Int} (h : OwnL q t w (B + 1) v l) (u0 u1 u2 : Value) : OwnL q t (three w B u0 u1 u2) B v l := by
  have hlt := World.ownsRow.lt h
  refine (h.keep fun b hb => three_heap w u0 u1 u2 ?_).mono (Nat.le_succ _)
  have := (hlt b hb).1
  omega
theorem ownKeep2 {q : IntKind} {t : TypeId} {w : World} {B B' b : Nat} {v : Value} {l : List Int} (h : OwnL q t w B v l) (hb : b < B) (hB : B' ≤ B) (u0 u1 u2 : Value) : OwnL q t (three w b u0 u1 u2) B' v l := by
  have hlt := World.ownsRow.lt h
  refine (h.keep fun k hk => three_heap w u0 u1 u2 ?_).mono hB
  have := (hlt k hk).1
  omega
/-- A query's eight cells. -/
structure Qb (w : World) (b : Nat) (p : Pq) : Prop where
  p0 : w.cell? ⟨b, 0, none⟩ = some (.int .i64 p.q.kind)
  p1 : w.cell? ⟨b, 1, none⟩ = some (.slice p.aw p.q.word.length p.cw)
  p2 : w.cell? ⟨b, 2, none⟩ = some (.int .i64 p.q.hyp.kind)
  p3 : w.cell? ⟨b, 3, none⟩ = some (.int .i64 p.q.hyp.k)
  p4 : w.cell? ⟨b, 4, none⟩ = some (.int .i64 p.q.hyp.o)
  p5 : w.cell? ⟨b, 5, none⟩ = some (.int .i64 p.q.hyp.n)
  p6 : w.cell? ⟨b, 6, none⟩ = some (.slice p.a1 p.q.hyp.nx.length p.c1)
  p7 : w.cell? ⟨b, 7, none⟩ = some (.slice p.a2 p.q.hyp.out.length p.c2)
theorem Qb.alloc (w : World) (p : Pq) (t : TypeId) : Qb (w.alloc (.cells #[.int .i64 p.q.kind, .slice p.aw p.q.word.length p.cw, .int .i64 p.q.hyp.kind, .int .i64 p.q.hyp.k, .int .i64 p.q.hyp.o, .int .i64 p.q.hyp.n, .slice p.a1 p.q.hyp.nx.length p.c1, .slice p.a2 p.q.hyp.out.length p.c2] t)) w.heap.size p := by
  constructor <;> simp
theorem Qb.below {w w' : World} {b : Nat} {p : Pq} (h : Qb w b p) (hb : Below w.heap.size w w') : Qb w' b p := by
  have hlt := World.block_lt_of_cell? w _ h.p0
  have ec : ∀ i, w'.cell? ⟨b, i, none⟩ = w.cell? ⟨b, i, none⟩ := fun i => hb.cell hlt
  exact ⟨(ec _).trans h.p0, (ec _).trans h.p1, (ec _).trans h.p2, (ec _).trans h.p3, (ec _).trans h.p4, (ec _).trans h.p5, (ec _).trans h.p6, (ec _).trans h.p7⟩
theorem Tri.alloc (w : World) (t : TypeId) : Tri (w.alloc (.cells #[.int .i64 0, .slice none 0 0, .slice none 0 0] t)) w.heap.size (.int .i64 0) (.slice none 0 0) (.slice none 0 0) := by
  constructor <;> simp
theorem Tri.below {w w' : World} {b : Nat} {u0 u1 u2 : Value} (h : Tri w b u0 u1 u2) (hb : Below w.heap.size w w') : Tri w' b u0 u1 u2 := by
  have hlt := World.block_lt_of_cell? w _ h.p0
  have ec : ∀ i, w'.cell? ⟨b, i, none⟩ = w.cell? ⟨b, i, none⟩ := fun i => hb.cell hlt
  exact ⟨(ec _).trans h.p0, (ec _).trans h.p1, (ec _).trans h.p2⟩

end Go.Proofs.Ytlcablkhomnieaa
