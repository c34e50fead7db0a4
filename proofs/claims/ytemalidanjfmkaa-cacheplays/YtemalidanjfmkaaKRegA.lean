/-
  A statement of the law CachePlays whose order is open: what Put leaves, in a new block.
-/
import Derived.Test.YtemalidanjfmkaaKRegH
import Derived.Test.YtemalidanjfmkaaOInv
import Derived.Test.YtemalidanjfmkaaCPutA
import Derived.Test.YtemalidanjfmkaaK19
namespace Go.Proofs.Ytemalidanjfmkaa
set_option linter.unusedVariables false
open Go.RowKit

def ka0 : Oper := { dst := some 104, op := Op.load 34 (Operand.tmp 13), type := 34, pos := "law.go:69", after := #[], guard := none }
def ka1 : Oper := { dst := some 105, op := Op.move (Operand.tmp 4), type := 22, pos := "law.go:69", after := #[], guard := none }
def ka2 : Oper := { dst := some 106, op := Op.move (Operand.tmp 15), type := 3, pos := "law.go:69", after := #[], guard := none }
def ka3 : Oper := { dst := some 107, op := Op.indexAddr 22 (Operand.tmp 105) (Operand.tmp 106), type := 0, pos := "law.go:69", after := #[{ on := 1, ground := Ground.data }, { on := 2, ground := Ground.data }], guard := none }
def ka4 : Oper := { dst := some 108, op := Op.fieldAddr 40 (Operand.tmp 107) 1, type := 0, pos := "law.go:69", after := #[{ on := 3, ground := Ground.data }], guard := none }
def ka5 : Oper := { dst := some 109, op := Op.load 29 (Operand.tmp 108), type := 29, pos := "law.go:69", after := #[{ on := 4, ground := Ground.data }], guard := none }
def ka6 : Oper := { dst := some 110, op := Op.move (Operand.tmp 4), type := 22, pos := "law.go:69", after := #[], guard := none }
def ka7 : Oper := { dst := some 111, op := Op.move (Operand.tmp 15), type := 3, pos := "law.go:69", after := #[], guard := none }
def ka8 : Oper := { dst := some 112, op := Op.indexAddr 22 (Operand.tmp 110) (Operand.tmp 111), type := 0, pos := "law.go:69", after := #[{ on := 6, ground := Ground.data }, { on := 7, ground := Ground.data }], guard := none }
def ka9 : Oper := { dst := some 113, op := Op.fieldAddr 40 (Operand.tmp 112) 2, type := 0, pos := "law.go:69", after := #[{ on := 8, ground := Ground.data }], guard := none }
def ka10 : Oper := { dst := some 114, op := Op.load 29 (Operand.tmp 113), type := 29, pos := "law.go:69", after := #[{ on := 9, ground := Ground.data }], guard := none }
def ka11 : Oper := { dst := some 115, op := Op.call { callee := Callee.value (Operand.func 16), args := #[Operand.tmp 104, Operand.tmp 109, Operand.tmp 114], argTypes := #[34, 29, 29] }, type := 35, pos := "law.go:69", after := #[{ on := 0, ground := Ground.data }, { on := 5, ground := Ground.data }, { on := 10, ground := Ground.data }], guard := none }
def ka12 : Oper := { dst := some 103, op := Op.move (Operand.tmp 115), type := 35, pos := "law.go:69", after := #[{ on := 11, ground := Ground.data }], guard := none }
def ka13 : Oper := { dst := some 116, op := Op.extract (Operand.tmp 103) 0, type := 34, pos := "law.go:69", after := #[{ on := 12, ground := Ground.data }], guard := none }
def ka14 : Oper := { dst := some 117, op := Op.extract (Operand.tmp 103) 1, type := 3, pos := "law.go:69", after := #[{ on := 12, ground := Ground.data }, { on := 16, ground := Ground.gcOnly Departure.lateStores }], guard := none }
def ka15 : Oper := { dst := some 19, op := Op.alloc 34, type := 0, pos := "law.go:69", after := #[], guard := none }
def ka16 : Oper := { dst := none, op := Op.store 34 (Operand.tmp 19) (Operand.tmp 116), type := 0, pos := "law.go:69", after := #[{ on := 15, ground := Ground.data }, { on := 13, ground := Ground.data }, { on := 11, ground := Ground.chain }, { on := 0, ground := Ground.phase }, { on := 1, ground := Ground.phase }, { on := 2, ground := Ground.phase }, { on := 3, ground := Ground.phase }, { on := 4, ground := Ground.phase }, { on := 5, ground := Ground.phase }, { on := 6, ground := Ground.phase }, { on := 7, ground := Ground.phase }, { on := 8, ground := Ground.phase }, { on := 9, ground := Ground.phase }, { on := 10, ground := Ground.phase }, { on := 11, ground := Ground.phase }, { on := 12, ground := Ground.phase }, { on := 13, ground := Ground.phase }, { on := 14, ground := Ground.textOnly Departure.lateStores }, { on := 15, ground := Ground.phase }], guard := none }
def ka17 : Oper := { dst := some 20, op := Op.assign (Operand.tmp 117), type := 3, pos := "law.go:69", after := #[{ on := 14, ground := Ground.data }, { on := 16, ground := Ground.chain }, { on := 0, ground := Ground.phase }, { on := 1, ground := Ground.phase }, { on := 2, ground := Ground.phase }, { on := 3, ground := Ground.phase }, { on := 4, ground := Ground.phase }, { on := 5, ground := Ground.phase }, { on := 6, ground := Ground.phase }, { on := 7, ground := Ground.phase }, { on := 8, ground := Ground.phase }, { on := 9, ground := Ground.phase }, { on := 10, ground := Ground.phase }, { on := 11, ground := Ground.phase }, { on := 12, ground := Ground.phase }, { on := 13, ground := Ground.phase }, { on := 14, ground := Ground.phase }, { on := 15, ground := Ground.phase }, { on := 16, ground := Ground.phase }], guard := none }
def kaOps : Array Oper := #[ka0, ka1, ka2, ka3, ka4, ka5, ka6, ka7, ka8, ka9, ka10, ka11, ka12, ka13, ka14, ka15, ka16, ka17]

theorem st12 {w : World} {b : Nat} {p0 : Cv} (h : Cb w b p0) (hf : ∀ i, w.frozen? ⟨b, i, none⟩ = false) (p : Cv) : (Instr.storeAt 34 (.pointer (some ⟨b, 0, none⟩)) (cvV p)).run Try.prog w = .ok () (dozen w b p) := by
  obtain ⟨p0, p1, p2, p3, p4, p5, p6, p7, p8, p9, p10, p11⟩ := h
  have f0 := hf 0
  have f1 := hf 1
  have f2 := hf 2
  have f3 := hf 3
  have f4 := hf 4
  have f5 := hf 5
  have f6 := hf 6
  have f7 := hf 7
  have f8 := hf 8
  have f9 := hf 9
  have f10 := hf 10
  have f11 := hf 11
  unfold cvV dozen
  go_simp
theorem run_call3Z {P : Program} {a : Act} {o : Oper} {f : Nat} {x y z : Operand} {ts : Array TypeId} {u v s : Value} {w : World} (ho : o.op = .call { callee := .value (.func f), args := #[x, y, z], argTypes := ts }) (hen : ∀ args w, (callFunc f args).run P w = .ok (.enter f args) w) (hx : a.eval x = u) (hy : a.eval y = v) (hz : a.eval z = s) : (execOp a.eval o).run P w = .ok (.enter f #[u, v, s]) w := by
  have ef : a.eval (.func f) = .func (.func f) #[] #[] := rfl
  simp [execOp, ho, ef, hx, hy, hz, resolve, invoke, Deferred.ofValue, hen]
def zero12 : Obj := .cells #[.int .i64 0, .int .i64 0, .int .i64 0, .int .i64 0, .slice none 0 0, .slice none 0 0, .int .i64 0, .slice none 0 0, .slice none 0 0, .slice none 0 0, .int .i64 0, .int .i64 0] 34
theorem alloc12 (w : World) : (Instr.alloc 34 true (.tuple #[])).run Try.prog w = .ok (.pointer (some ⟨w.heap.size, 0, none⟩)) (w.alloc zero12) := by
  unfold zero12
  go_simp
theorem dozen_bx1 (w : World) (db : Nat) (p : Cv) : Bx (fun k => k = db) w (dozen w db p) := by
  unfold dozen
  exact (((((((((((((Bx.refl (fun k => k = db) w).setCell (p := ⟨db, 0, none⟩) rfl _).setCell (p := ⟨db, 1, none⟩) rfl _).setCell (p := ⟨db, 2, none⟩) rfl _).setCell (p := ⟨db, 3, none⟩) rfl _).setCell (p := ⟨db, 4, none⟩) rfl _).setCell (p := ⟨db, 5, none⟩) rfl _).setCell (p := ⟨db, 6, none⟩) rfl _).setCell (p := ⟨db, 7, none⟩) rfl _).setCell (p := ⟨db, 8, none⟩) rfl _).setCell (p := ⟨db, 9, none⟩) rfl _).setCell (p := ⟨db, 10, none⟩) rfl _).setCell (p := ⟨db, 11, none⟩) rfl _)
theorem dozen_frz (w : World) (db : Nat) (p : Cv) (a : Addr) : (dozen w db p).frozen? a = w.frozen? a := by
  unfold dozen
  simp only [World.frozen?_setCell]
theorem Bx.weak {X Y : Nat → Prop} {w w' : World} (h : Bx X w w') (hs : ∀ j, j < w.heap.size → X j → Y j) : Bx Y w w' := ⟨h.os, h.tape, h.output, h.size, fun k hk hn => h.block k hk fun q => hn (hs k hk q)⟩
theorem bx_up {X : Nat → Prop} {a b c : World} (hs : a.heap.size ≤ b.heap.size) (hb : Below a.heap.size a b) (hz : Bx X b c) : Bx X a c := (Bx.of hb).trans hz fun _ _ q => q
/-- The lists of p7 stay, whatever becomes of old blocks that p does not need, and of the block nb. -/
def StE (W0 : World) (p : Cv) (nb : Nat) (p7 : Cv) (W : World) : Prop := ∀ X : Nat → Prop, (∀ j, X j → j < W0.heap.size ∨ j = nb) → (∀ wz, Bx X W0 wz → RdC wz p) → ∀ wz, Bx X W wz → RdC wz p7
def StR (W0 : World) (p p7 : Cv) (W : World) : Prop := ∀ X : Nat → Prop, (∀ j, X j → j < W0.heap.size) → (∀ wz, Bx X W0 wz → RdC wz p) → ∀ wz, Bx X W wz → RdC wz p7
theorem StE.below {W0 W W' : World} {p p7 : Cv} {nb : Nat} (h : StE W0 p nb p7 W) (hb : Below W.heap.size W W') : StE W0 p nb p7 W' := fun X h1 h2 wz hz => h X h1 h2 wz (bx_down hb hz)
theorem StR.below {W0 W W' : World} {p p7 : Cv} (h : StR W0 p p7 W) (hb : Below W.heap.size W W') : StR W0 p p7 W' := fun X h1 h2 wz hz => h X h1 h2 wz (bx_down hb hz)
theorem StR.new {W0 W W' : World} {p p7 : Cv} (h : StR W0 p p7 W) (hlo : W0.heap.size ≤ W.heap.size) (hb : Below W.heap.size W W') : StE W0 p W.heap.size p7 W' := fun X h1 h2 wz hz => by
  refine h (fun j => X j ∧ j < W0.heap.size) (fun j hj => hj.2) (fun wy hy => h2 wy (hy.weak fun _ _ q => q.1)) wz ?_
  have h3 := bx_down hb hz
  exact h3.weak fun j hj q => ⟨q, by rcases h1 j q with z | z <;> omega⟩
theorem StE.set {W0 W : World} {p p7 : Cv} {nb : Nat} (h : StE W0 p nb p7 W) (hn : W0.heap.size ≤ nb) (p8 : Cv) : StE W0 p nb p7 (dozen W nb p8) := fun X h1 h2 wz hz => by
  refine h (fun j => X j ∨ j = nb) (fun j hj => hj.elim (h1 j) .inr) (fun wy hy => h2 wy (hy.weak fun j hj q => q.elim id fun e => by omega)) wz ?_
  exact ((dozen_bx1 W nb p8).weak (Y := fun j => X j ∨ j = nb) fun _ _ q => .inr q).trans (hz.weak (Y := fun j => X j ∨ j = nb) fun _ _ q => .inl q) fun _ _ q => q
/-- What holds when some have come. -/
structure KJ (a0 : Act) (W0 : World) (lb loff L cl t db : Nat) (p : Cv) (a1 a2 : Option Addr) (c1 c2 : Nat) (l1 l2 : List Int) (D : Nat → Bool) (x : Act) (W : World) : Prop where
  sz : x.tmps.size = a0.tmps.size
  df : x.defers = a0.defers
  ag : ∀ t : Nat, t < 103 ∨ 117 < t → t ≠ 19 → t ≠ 20 → x.eval (.tmp t) = a0.eval (.tmp t)
  lo : Below W0.heap.size W0 W
  v0 : D 0 = true → x.eval (.tmp 104) = cvV p
  v1 : D 1 = true → x.eval (.tmp 105) = .slice (some ⟨lb, loff, none⟩) L cl
  v2 : D 2 = true → x.eval (.tmp 106) = .int .i64 (t : Int)
  v3 : D 3 = true → x.eval (.tmp 107) = .pointer (some ⟨lb, loff + t * 3, none⟩)
  v4 : D 4 = true → x.eval (.tmp 108) = .pointer (some ⟨lb, loff + t * 3 + 1, none⟩)
  v5 : D 5 = true → x.eval (.tmp 109) = .slice a1 l1.length c1
  v6 : D 6 = true → x.eval (.tmp 110) = .slice (some ⟨lb, loff, none⟩) L cl
  v7 : D 7 = true → x.eval (.tmp 111) = .int .i64 (t : Int)
  v8 : D 8 = true → x.eval (.tmp 112) = .pointer (some ⟨lb, loff + t * 3, none⟩)
  v9 : D 9 = true → x.eval (.tmp 113) = .pointer (some ⟨lb, loff + t * 3 + 2, none⟩)
  v10 : D 10 = true → x.eval (.tmp 114) = .slice a2 l2.length c2
  p11 : D 11 = true → ∃ p7, x.eval (.tmp 115) = .tuple #[cvV p7, .int .i64 (putV p.cs l1 l2).2]
  p12 : D 12 = true → x.eval (.tmp 103) = x.eval (.tmp 115)
  p13 : D 13 = true → ∃ p7, x.eval (.tmp 115) = .tuple #[cvV p7, .int .i64 (putV p.cs l1 l2).2] ∧ x.eval (.tmp 116) = cvV p7
  p14 : D 14 = true → x.eval (.tmp 117) = .int .i64 (putV p.cs l1 l2).2
  p17 : D 17 = true → x.eval (.tmp 20) = .int .i64 (putV p.cs l1 l2).2
  a15 : D 15 = true → D 16 = false → ∃ nb, x.eval (.tmp 19) = .pointer (some ⟨nb, 0, none⟩) ∧ W0.heap.size ≤ nb ∧ Cb W nb cv0 ∧ ∀ i, W.frozen? ⟨nb, i, none⟩ = false
  b11 : D 11 = true → D 16 = false → ∃ p7, x.eval (.tmp 115) = .tuple #[cvV p7, .int .i64 (putV p.cs l1 l2).2] ∧ p7.cs = (putV p.cs l1 l2).1 ∧ Cok p7 ∧ StR W0 p p7 W
  jn : D 11 = true → D 15 = true → D 16 = false → ∃ nb p7, x.eval (.tmp 19) = .pointer (some ⟨nb, 0, none⟩) ∧ x.eval (.tmp 115) = .tuple #[cvV p7, .int .i64 (putV p.cs l1 l2).2] ∧ p7.cs = (putV p.cs l1 l2).1 ∧ Cok p7 ∧ StE W0 p nb p7 W
  f16 : D 16 = true → ∃ nb p7, x.eval (.tmp 19) = .pointer (some ⟨nb, 0, none⟩) ∧ W0.heap.size ≤ nb ∧ Cb W nb p7 ∧ (∀ i, W.frozen? ⟨nb, i, none⟩ = false) ∧ p7.cs = (putV p.cs l1 l2).1 ∧ Cok p7 ∧ StE W0 p nb p7 W
section
variable {lb loff L cl t db : Nat} {p : Cv} {a1 a2 : Option Addr} {c1 c2 : Nat} {l1 l2 : List Int}
theorem KJ.grow {a0 x : Act} {W0 W W' : World} {D : Nat → Bool} (E : KJ a0 W0 lb loff L cl t db p a1 a2 c1 c2 l1 l2 D x W) (hb : Below W.heap.size W W') : KJ a0 W0 lb loff L cl t db p a1 a2 c1 c2 l1 l2 D x W' :=
  { E with
    lo := E.lo.trans (hb.mono E.lo.size)
    a15 := fun h h' => by
      obtain ⟨nb, e, h1, h2, h3⟩ := E.a15 h h'
      exact ⟨nb, e, h1, h2.below hb, fun i => frzO (h3 i) hb (World.block_lt_of_cell? W _ h2.p0)⟩
    b11 := fun h h' => by
      obtain ⟨p7, e, h1, h2, h3⟩ := E.b11 h h'
      exact ⟨p7, e, h1, h2, h3.below hb⟩
    jn := fun h h' h'' => by
      obtain ⟨nb, p7, e, e', h1, h2, h3⟩ := E.jn h h' h''
      exact ⟨nb, p7, e, e', h1, h2, h3.below hb⟩
    f16 := fun h => by
      obtain ⟨nb, p7, e, h1, h2, h3, h4, h5, h6⟩ := E.f16 h
      exact ⟨nb, p7, e, h1, h2.below hb, fun i => frzO (h3 i) hb (World.block_lt_of_cell? W _ h2.p0), h4, h5, h6.below hb⟩ }

theorem KJ.s0 {a0 x : Act} {W0 W : World} {D : Nat → Bool} (E : KJ a0 W0 lb loff L cl t db p a1 a2 c1 c2 l1 l2 D x W) (hcl : ClsD kaOps D) (hD : D 0 = false) (hs0 : a0.tmps.size = 207) {v : Value} (hv : v = cvV p) :
    KJ a0 W0 lb loff L cl t db p a1 a2 c1 c2 l1 l2 (fun k => decide (k = 0) || D k) (x.put (some 104) v) W := by
  have hsz : 104 < x.tmps.size := by rw [E.sz, hs0]; decide
  refine { sz := by rw [← E.sz]; simp [Act.put], df := E.df, ag := fun t h1 h2 h3 => (ev_neZ (by omega)).trans (E.ag t h1 h2 h3), lo := E.lo, v0 := ?v0, v1 := ?v1, v2 := ?v2, v3 := ?v3, v4 := ?v4, v5 := ?v5, v6 := ?v6, v7 := ?v7, v8 := ?v8, v9 := ?v9, v10 := ?v10, p11 := ?p11, p12 := ?p12, p13 := ?p13, p14 := ?p14, p17 := ?p17, a15 := ?a15, b11 := ?b11, jn := ?jn, f16 := ?f16 }
  case v0 =>
    intro _
    rw [ev_sameZ hsz]; exact hv
  case v1 =>
    intro h
    simp at h
    rw [show (x.put (some 104) v).eval (.tmp 105) = x.eval (.tmp 105) from ev_neZ (by decide)]
    exact E.v1 h
  case v2 =>
    intro h
    simp at h
    rw [show (x.put (some 104) v).eval (.tmp 106) = x.eval (.tmp 106) from ev_neZ (by decide)]
    exact E.v2 h
  case v3 =>
    intro h
    simp at h
    rw [show (x.put (some 104) v).eval (.tmp 107) = x.eval (.tmp 107) from ev_neZ (by decide)]
    exact E.v3 h
  case v4 =>
    intro h
    simp at h
    rw [show (x.put (some 104) v).eval (.tmp 108) = x.eval (.tmp 108) from ev_neZ (by decide)]
    exact E.v4 h
  case v5 =>
    intro h
    simp at h
    rw [show (x.put (some 104) v).eval (.tmp 109) = x.eval (.tmp 109) from ev_neZ (by decide)]
    exact E.v5 h
  case v6 =>
    intro h
    simp at h
    rw [show (x.put (some 104) v).eval (.tmp 110) = x.eval (.tmp 110) from ev_neZ (by decide)]
    exact E.v6 h
  case v7 =>
    intro h
    simp at h
    rw [show (x.put (some 104) v).eval (.tmp 111) = x.eval (.tmp 111) from ev_neZ (by decide)]
    exact E.v7 h
  case v8 =>
    intro h
    simp at h
    rw [show (x.put (some 104) v).eval (.tmp 112) = x.eval (.tmp 112) from ev_neZ (by decide)]
    exact E.v8 h
  case v9 =>
    intro h
    simp at h
    rw [show (x.put (some 104) v).eval (.tmp 113) = x.eval (.tmp 113) from ev_neZ (by decide)]
    exact E.v9 h
  case v10 =>
    intro h
    simp at h
    rw [show (x.put (some 104) v).eval (.tmp 114) = x.eval (.tmp 114) from ev_neZ (by decide)]
    exact E.v10 h
  case p11 =>
    intro h
    simp at h
    rw [show (x.put (some 104) v).eval (.tmp 115) = x.eval (.tmp 115) from ev_neZ (by decide)]
    exact E.p11 h
  case p12 =>
    intro h
    simp at h
    rw [show (x.put (some 104) v).eval (.tmp 103) = x.eval (.tmp 103) from ev_neZ (by decide)]
    rw [show (x.put (some 104) v).eval (.tmp 115) = x.eval (.tmp 115) from ev_neZ (by decide)]
    exact E.p12 h
  case p13 =>
    intro h
    simp at h
    rw [show (x.put (some 104) v).eval (.tmp 115) = x.eval (.tmp 115) from ev_neZ (by decide)]
    rw [show (x.put (some 104) v).eval (.tmp 116) = x.eval (.tmp 116) from ev_neZ (by decide)]
    exact E.p13 h
  case p14 =>
    intro h
    simp at h
    rw [show (x.put (some 104) v).eval (.tmp 117) = x.eval (.tmp 117) from ev_neZ (by decide)]
    exact E.p14 h
  case p17 =>
    intro h
    simp at h
    rw [show (x.put (some 104) v).eval (.tmp 20) = x.eval (.tmp 20) from ev_neZ (by decide)]
    exact E.p17 h
  case a15 =>
    intro h h'
    simp at h
    simp at h'
    rw [show (x.put (some 104) v).eval (.tmp 19) = x.eval (.tmp 19) from ev_neZ (by decide)]
    exact E.a15 h h'
  case b11 =>
    intro h h'
    simp at h
    simp at h'
    rw [show (x.put (some 104) v).eval (.tmp 115) = x.eval (.tmp 115) from ev_neZ (by decide)]
    exact E.b11 h h'
  case jn =>
    intro h h' h''
    simp at h
    simp at h'
    simp at h''
    rw [show (x.put (some 104) v).eval (.tmp 19) = x.eval (.tmp 19) from ev_neZ (by decide)]
    rw [show (x.put (some 104) v).eval (.tmp 115) = x.eval (.tmp 115) from ev_neZ (by decide)]
    exact E.jn h h' h''
  case f16 =>
    intro h
    simp at h
    rw [show (x.put (some 104) v).eval (.tmp 19) = x.eval (.tmp 19) from ev_neZ (by decide)]
    exact E.f16 h
theorem KJ.s1 {a0 x : Act} {W0 W : World} {D : Nat → Bool} (E : KJ a0 W0 lb loff L cl t db p a1 a2 c1 c2 l1 l2 D x W) (hcl : ClsD kaOps D) (hD : D 1 = false) (hs0 : a0.tmps.size = 207) {v : Value} (hv : v = .slice (some ⟨lb, loff, none⟩) L cl) :
    KJ a0 W0 lb loff L cl t db p a1 a2 c1 c2 l1 l2 (fun k => decide (k = 1) || D k) (x.put (some 105) v) W := by
  have hsz : 105 < x.tmps.size := by rw [E.sz, hs0]; decide
  refine { sz := by rw [← E.sz]; simp [Act.put], df := E.df, ag := fun t h1 h2 h3 => (ev_neZ (by omega)).trans (E.ag t h1 h2 h3), lo := E.lo, v0 := ?v0, v1 := ?v1, v2 := ?v2, v3 := ?v3, v4 := ?v4, v5 := ?v5, v6 := ?v6, v7 := ?v7, v8 := ?v8, v9 := ?v9, v10 := ?v10, p11 := ?p11, p12 := ?p12, p13 := ?p13, p14 := ?p14, p17 := ?p17, a15 := ?a15, b11 := ?b11, jn := ?jn, f16 := ?f16 }
  case v0 =>
    intro h
    simp at h
    rw [show (x.put (some 105) v).eval (.tmp 104) = x.eval (.tmp 104) from ev_neZ (by decide)]
    exact E.v0 h
  case v1 =>
    intro _
    rw [ev_sameZ hsz]; exact hv
  case v2 =>
    intro h
    simp at h
    rw [show (x.put (some 105) v).eval (.tmp 106) = x.eval (.tmp 106) from ev_neZ (by decide)]
    exact E.v2 h
  case v3 =>
    intro h
    simp at h
    rw [show (x.put (some 105) v).eval (.tmp 107) = x.eval (.tmp 107) from ev_neZ (by decide)]
    exact E.v3 h
  case v4 =>
    intro h
    simp at h
    rw [show (x.put (some 105) v).eval (.tmp 108) = x.eval (.tmp 108) from ev_neZ (by decide)]
    exact E.v4 h
  case v5 =>
    intro h
    simp at h
    rw [show (x.put (some 105) v).eval (.tmp 109) = x.eval (.tmp 109) from ev_neZ (by decide)]
    exact E.v5 h
  case v6 =>
    intro h
    simp at h
    rw [show (x.put (some 105) v).eval (.tmp 110) = x.eval (.tmp 110) from ev_neZ (by decide)]
    exact E.v6 h
  case v7 =>
    intro h
    simp at h
    rw [show (x.put (some 105) v).eval (.tmp 111) = x.eval (.tmp 111) from ev_neZ (by decide)]
    exact E.v7 h
  case v8 =>
    intro h
    simp at h
    rw [show (x.put (some 105) v).eval (.tmp 112) = x.eval (.tmp 112) from ev_neZ (by decide)]
    exact E.v8 h
  case v9 =>
    intro h
    simp at h
    rw [show (x.put (some 105) v).eval (.tmp 113) = x.eval (.tmp 113) from ev_neZ (by decide)]
    exact E.v9 h
  case v10 =>
    intro h
    simp at h
    rw [show (x.put (some 105) v).eval (.tmp 114) = x.eval (.tmp 114) from ev_neZ (by decide)]
    exact E.v10 h
  case p11 =>
    intro h
    simp at h
    rw [show (x.put (some 105) v).eval (.tmp 115) = x.eval (.tmp 115) from ev_neZ (by decide)]
    exact E.p11 h
  case p12 =>
    intro h
    simp at h
    rw [show (x.put (some 105) v).eval (.tmp 103) = x.eval (.tmp 103) from ev_neZ (by decide)]
    rw [show (x.put (some 105) v).eval (.tmp 115) = x.eval (.tmp 115) from ev_neZ (by decide)]
    exact E.p12 h
  case p13 =>
    intro h
    simp at h
    rw [show (x.put (some 105) v).eval (.tmp 115) = x.eval (.tmp 115) from ev_neZ (by decide)]
    rw [show (x.put (some 105) v).eval (.tmp 116) = x.eval (.tmp 116) from ev_neZ (by decide)]
    exact E.p13 h
  case p14 =>
    intro h
    simp at h
    rw [show (x.put (some 105) v).eval (.tmp 117) = x.eval (.tmp 117) from ev_neZ (by decide)]
    exact E.p14 h
  case p17 =>
    intro h
    simp at h
    rw [show (x.put (some 105) v).eval (.tmp 20) = x.eval (.tmp 20) from ev_neZ (by decide)]
    exact E.p17 h
  case a15 =>
    intro h h'
    simp at h
    simp at h'
    rw [show (x.put (some 105) v).eval (.tmp 19) = x.eval (.tmp 19) from ev_neZ (by decide)]
    exact E.a15 h h'
  case b11 =>
    intro h h'
    simp at h
    simp at h'
    rw [show (x.put (some 105) v).eval (.tmp 115) = x.eval (.tmp 115) from ev_neZ (by decide)]
    exact E.b11 h h'
  case jn =>
    intro h h' h''
    simp at h
    simp at h'
    simp at h''
    rw [show (x.put (some 105) v).eval (.tmp 19) = x.eval (.tmp 19) from ev_neZ (by decide)]
    rw [show (x.put (some 105) v).eval (.tmp 115) = x.eval (.tmp 115) from ev_neZ (by decide)]
    exact E.jn h h' h''
  case f16 =>
    intro h
    simp at h
    rw [show (x.put (some 105) v).eval (.tmp 19) = x.eval (.tmp 19) from ev_neZ (by decide)]
    exact E.f16 h
theorem KJ.s2 {a0 x : Act} {W0 W : World} {D : Nat → Bool} (E : KJ a0 W0 lb loff L cl t db p a1 a2 c1 c2 l1 l2 D x W) (hcl : ClsD kaOps D) (hD : D 2 = false) (hs0 : a0.tmps.size = 207) {v : Value} (hv : v = .int .i64 (t : Int)) :
    KJ a0 W0 lb loff L cl t db p a1 a2 c1 c2 l1 l2 (fun k => decide (k = 2) || D k) (x.put (some 106) v) W := by
  have hsz : 106 < x.tmps.size := by rw [E.sz, hs0]; decide
  refine { sz := by rw [← E.sz]; simp [Act.put], df := E.df, ag := fun t h1 h2 h3 => (ev_neZ (by omega)).trans (E.ag t h1 h2 h3), lo := E.lo, v0 := ?v0, v1 := ?v1, v2 := ?v2, v3 := ?v3, v4 := ?v4, v5 := ?v5, v6 := ?v6, v7 := ?v7, v8 := ?v8, v9 := ?v9, v10 := ?v10, p11 := ?p11, p12 := ?p12, p13 := ?p13, p14 := ?p14, p17 := ?p17, a15 := ?a15, b11 := ?b11, jn := ?jn, f16 := ?f16 }
  case v0 =>
    intro h
    simp at h
    rw [show (x.put (some 106) v).eval (.tmp 104) = x.eval (.tmp 104) from ev_neZ (by decide)]
    exact E.v0 h
  case v1 =>
    intro h
    simp at h
    rw [show (x.put (some 106) v).eval (.tmp 105) = x.eval (.tmp 105) from ev_neZ (by decide)]
    exact E.v1 h
  case v2 =>
    intro _
    rw [ev_sameZ hsz]; exact hv
  case v3 =>
    intro h
    simp at h
    rw [show (x.put (some 106) v).eval (.tmp 107) = x.eval (.tmp 107) from ev_neZ (by decide)]
    exact E.v3 h
  case v4 =>
    intro h
    simp at h
    rw [show (x.put (some 106) v).eval (.tmp 108) = x.eval (.tmp 108) from ev_neZ (by decide)]
    exact E.v4 h
  case v5 =>
    intro h
    simp at h
    rw [show (x.put (some 106) v).eval (.tmp 109) = x.eval (.tmp 109) from ev_neZ (by decide)]
    exact E.v5 h
  case v6 =>
    intro h
    simp at h
    rw [show (x.put (some 106) v).eval (.tmp 110) = x.eval (.tmp 110) from ev_neZ (by decide)]
    exact E.v6 h
  case v7 =>
    intro h
    simp at h
    rw [show (x.put (some 106) v).eval (.tmp 111) = x.eval (.tmp 111) from ev_neZ (by decide)]
    exact E.v7 h
  case v8 =>
    intro h
    simp at h
    rw [show (x.put (some 106) v).eval (.tmp 112) = x.eval (.tmp 112) from ev_neZ (by decide)]
    exact E.v8 h
  case v9 =>
    intro h
    simp at h
    rw [show (x.put (some 106) v).eval (.tmp 113) = x.eval (.tmp 113) from ev_neZ (by decide)]
    exact E.v9 h
  case v10 =>
    intro h
    simp at h
    rw [show (x.put (some 106) v).eval (.tmp 114) = x.eval (.tmp 114) from ev_neZ (by decide)]
    exact E.v10 h
  case p11 =>
    intro h
    simp at h
    rw [show (x.put (some 106) v).eval (.tmp 115) = x.eval (.tmp 115) from ev_neZ (by decide)]
    exact E.p11 h
  case p12 =>
    intro h
    simp at h
    rw [show (x.put (some 106) v).eval (.tmp 103) = x.eval (.tmp 103) from ev_neZ (by decide)]
    rw [show (x.put (some 106) v).eval (.tmp 115) = x.eval (.tmp 115) from ev_neZ (by decide)]
    exact E.p12 h
  case p13 =>
    intro h
    simp at h
    rw [show (x.put (some 106) v).eval (.tmp 115) = x.eval (.tmp 115) from ev_neZ (by decide)]
    rw [show (x.put (some 106) v).eval (.tmp 116) = x.eval (.tmp 116) from ev_neZ (by decide)]
    exact E.p13 h
  case p14 =>
    intro h
    simp at h
    rw [show (x.put (some 106) v).eval (.tmp 117) = x.eval (.tmp 117) from ev_neZ (by decide)]
    exact E.p14 h
  case p17 =>
    intro h
    simp at h
    rw [show (x.put (some 106) v).eval (.tmp 20) = x.eval (.tmp 20) from ev_neZ (by decide)]
    exact E.p17 h
  case a15 =>
    intro h h'
    simp at h
    simp at h'
    rw [show (x.put (some 106) v).eval (.tmp 19) = x.eval (.tmp 19) from ev_neZ (by decide)]
    exact E.a15 h h'
  case b11 =>
    intro h h'
    simp at h
    simp at h'
    rw [show (x.put (some 106) v).eval (.tmp 115) = x.eval (.tmp 115) from ev_neZ (by decide)]
    exact E.b11 h h'
  case jn =>
    intro h h' h''
    simp at h
    simp at h'
    simp at h''
    rw [show (x.put (some 106) v).eval (.tmp 19) = x.eval (.tmp 19) from ev_neZ (by decide)]
    rw [show (x.put (some 106) v).eval (.tmp 115) = x.eval (.tmp 115) from ev_neZ (by decide)]
    exact E.jn h h' h''
  case f16 =>
    intro h
    simp at h
    rw [show (x.put (some 106) v).eval (.tmp 19) = x.eval (.tmp 19) from ev_neZ (by decide)]
    exact E.f16 h
theorem KJ.s3 {a0 x : Act} {W0 W : World} {D : Nat → Bool} (E : KJ a0 W0 lb loff L cl t db p a1 a2 c1 c2 l1 l2 D x W) (hcl : ClsD kaOps D) (hD : D 3 = false) (hs0 : a0.tmps.size = 207) {v : Value} (hv : v = .pointer (some ⟨lb, loff + t * 3, none⟩)) :
    KJ a0 W0 lb loff L cl t db p a1 a2 c1 c2 l1 l2 (fun k => decide (k = 3) || D k) (x.put (some 107) v) W := by
  have hsz : 107 < x.tmps.size := by rw [E.sz, hs0]; decide
  refine { sz := by rw [← E.sz]; simp [Act.put], df := E.df, ag := fun t h1 h2 h3 => (ev_neZ (by omega)).trans (E.ag t h1 h2 h3), lo := E.lo, v0 := ?v0, v1 := ?v1, v2 := ?v2, v3 := ?v3, v4 := ?v4, v5 := ?v5, v6 := ?v6, v7 := ?v7, v8 := ?v8, v9 := ?v9, v10 := ?v10, p11 := ?p11, p12 := ?p12, p13 := ?p13, p14 := ?p14, p17 := ?p17, a15 := ?a15, b11 := ?b11, jn := ?jn, f16 := ?f16 }
  case v0 =>
    intro h
    simp at h
    rw [show (x.put (some 107) v).eval (.tmp 104) = x.eval (.tmp 104) from ev_neZ (by decide)]
    exact E.v0 h
  case v1 =>
    intro h
    simp at h
    rw [show (x.put (some 107) v).eval (.tmp 105) = x.eval (.tmp 105) from ev_neZ (by decide)]
    exact E.v1 h
  case v2 =>
    intro h
    simp at h
    rw [show (x.put (some 107) v).eval (.tmp 106) = x.eval (.tmp 106) from ev_neZ (by decide)]
    exact E.v2 h
  case v3 =>
    intro _
    rw [ev_sameZ hsz]; exact hv
  case v4 =>
    intro h
    simp at h
    rw [show (x.put (some 107) v).eval (.tmp 108) = x.eval (.tmp 108) from ev_neZ (by decide)]
    exact E.v4 h
  case v5 =>
    intro h
    simp at h
    rw [show (x.put (some 107) v).eval (.tmp 109) = x.eval (.tmp 109) from ev_neZ (by decide)]
    exact E.v5 h
  case v6 =>
    intro h
    simp at h
    rw [show (x.put (some 107) v).eval (.tmp 110) = x.eval (.tmp 110) from ev_neZ (by decide)]
    exact E.v6 h
  case v7 =>
    intro h
    simp at h
    rw [show (x.put (some 107) v).eval (.tmp 111) = x.eval (.tmp 111) from ev_neZ (by decide)]
    exact E.v7 h
  case v8 =>
    intro h
    simp at h
    rw [show (x.put (some 107) v).eval (.tmp 112) = x.eval (.tmp 112) from ev_neZ (by decide)]
    exact E.v8 h
  case v9 =>
    intro h
    simp at h
    rw [show (x.put (some 107) v).eval (.tmp 113) = x.eval (.tmp 113) from ev_neZ (by decide)]
    exact E.v9 h
  case v10 =>
    intro h
    simp at h
    rw [show (x.put (some 107) v).eval (.tmp 114) = x.eval (.tmp 114) from ev_neZ (by decide)]
    exact E.v10 h
  case p11 =>
    intro h
    simp at h
    rw [show (x.put (some 107) v).eval (.tmp 115) = x.eval (.tmp 115) from ev_neZ (by decide)]
    exact E.p11 h
  case p12 =>
    intro h
    simp at h
    rw [show (x.put (some 107) v).eval (.tmp 103) = x.eval (.tmp 103) from ev_neZ (by decide)]
    rw [show (x.put (some 107) v).eval (.tmp 115) = x.eval (.tmp 115) from ev_neZ (by decide)]
    exact E.p12 h
  case p13 =>
    intro h
    simp at h
    rw [show (x.put (some 107) v).eval (.tmp 115) = x.eval (.tmp 115) from ev_neZ (by decide)]
    rw [show (x.put (some 107) v).eval (.tmp 116) = x.eval (.tmp 116) from ev_neZ (by decide)]
    exact E.p13 h
  case p14 =>
    intro h
    simp at h
    rw [show (x.put (some 107) v).eval (.tmp 117) = x.eval (.tmp 117) from ev_neZ (by decide)]
    exact E.p14 h
  case p17 =>
    intro h
    simp at h
    rw [show (x.put (some 107) v).eval (.tmp 20) = x.eval (.tmp 20) from ev_neZ (by decide)]
    exact E.p17 h
  case a15 =>
    intro h h'
    simp at h
    simp at h'
    rw [show (x.put (some 107) v).eval (.tmp 19) = x.eval (.tmp 19) from ev_neZ (by decide)]
    exact E.a15 h h'
  case b11 =>
    intro h h'
    simp at h
    simp at h'
    rw [show (x.put (some 107) v).eval (.tmp 115) = x.eval (.tmp 115) from ev_neZ (by decide)]
    exact E.b11 h h'
  case jn =>
    intro h h' h''
    simp at h
    simp at h'
    simp at h''
    rw [show (x.put (some 107) v).eval (.tmp 19) = x.eval (.tmp 19) from ev_neZ (by decide)]
    rw [show (x.put (some 107) v).eval (.tmp 115) = x.eval (.tmp 115) from ev_neZ (by decide)]
    exact E.jn h h' h''
  case f16 =>
    intro h
    simp at h
    rw [show (x.put (some 107) v).eval (.tmp 19) = x.eval (.tmp 19) from ev_neZ (by decide)]
    exact E.f16 h
theorem KJ.s4 {a0 x : Act} {W0 W : World} {D : Nat → Bool} (E : KJ a0 W0 lb loff L cl t db p a1 a2 c1 c2 l1 l2 D x W) (hcl : ClsD kaOps D) (hD : D 4 = false) (hs0 : a0.tmps.size = 207) {v : Value} (hv : v = .pointer (some ⟨lb, loff + t * 3 + 1, none⟩)) :
    KJ a0 W0 lb loff L cl t db p a1 a2 c1 c2 l1 l2 (fun k => decide (k = 4) || D k) (x.put (some 108) v) W := by
  have hsz : 108 < x.tmps.size := by rw [E.sz, hs0]; decide
  refine { sz := by rw [← E.sz]; simp [Act.put], df := E.df, ag := fun t h1 h2 h3 => (ev_neZ (by omega)).trans (E.ag t h1 h2 h3), lo := E.lo, v0 := ?v0, v1 := ?v1, v2 := ?v2, v3 := ?v3, v4 := ?v4, v5 := ?v5, v6 := ?v6, v7 := ?v7, v8 := ?v8, v9 := ?v9, v10 := ?v10, p11 := ?p11, p12 := ?p12, p13 := ?p13, p14 := ?p14, p17 := ?p17, a15 := ?a15, b11 := ?b11, jn := ?jn, f16 := ?f16 }
  case v0 =>
    intro h
    simp at h
    rw [show (x.put (some 108) v).eval (.tmp 104) = x.eval (.tmp 104) from ev_neZ (by decide)]
    exact E.v0 h
  case v1 =>
    intro h
    simp at h
    rw [show (x.put (some 108) v).eval (.tmp 105) = x.eval (.tmp 105) from ev_neZ (by decide)]
    exact E.v1 h
  case v2 =>
    intro h
    simp at h
    rw [show (x.put (some 108) v).eval (.tmp 106) = x.eval (.tmp 106) from ev_neZ (by decide)]
    exact E.v2 h
  case v3 =>
    intro h
    simp at h
    rw [show (x.put (some 108) v).eval (.tmp 107) = x.eval (.tmp 107) from ev_neZ (by decide)]
    exact E.v3 h
  case v4 =>
    intro _
    rw [ev_sameZ hsz]; exact hv
  case v5 =>
    intro h
    simp at h
    rw [show (x.put (some 108) v).eval (.tmp 109) = x.eval (.tmp 109) from ev_neZ (by decide)]
    exact E.v5 h
  case v6 =>
    intro h
    simp at h
    rw [show (x.put (some 108) v).eval (.tmp 110) = x.eval (.tmp 110) from ev_neZ (by decide)]
    exact E.v6 h
  case v7 =>
    intro h
    simp at h
    rw [show (x.put (some 108) v).eval (.tmp 111) = x.eval (.tmp 111) from ev_neZ (by decide)]
    exact E.v7 h
  case v8 =>
    intro h
    simp at h
    rw [show (x.put (some 108) v).eval (.tmp 112) = x.eval (.tmp 112) from ev_neZ (by decide)]
    exact E.v8 h
  case v9 =>
    intro h
    simp at h
    rw [show (x.put (some 108) v).eval (.tmp 113) = x.eval (.tmp 113) from ev_neZ (by decide)]
    exact E.v9 h
  case v10 =>
    intro h
    simp at h
    rw [show (x.put (some 108) v).eval (.tmp 114) = x.eval (.tmp 114) from ev_neZ (by decide)]
    exact E.v10 h
  case p11 =>
    intro h
    simp at h
    rw [show (x.put (some 108) v).eval (.tmp 115) = x.eval (.tmp 115) from ev_neZ (by decide)]
    exact E.p11 h
  case p12 =>
    intro h
    simp at h
    rw [show (x.put (some 108) v).eval (.tmp 103) = x.eval (.tmp 103) from ev_neZ (by decide)]
    rw [show (x.put (some 108) v).eval (.tmp 115) = x.eval (.tmp 115) from ev_neZ (by decide)]
    exact E.p12 h
  case p13 =>
    intro h
    simp at h
    rw [show (x.put (some 108) v).eval (.tmp 115) = x.eval (.tmp 115) from ev_neZ (by decide)]
    rw [show (x.put (some 108) v).eval (.tmp 116) = x.eval (.tmp 116) from ev_neZ (by decide)]
    exact E.p13 h
  case p14 =>
    intro h
    simp at h
    rw [show (x.put (some 108) v).eval (.tmp 117) = x.eval (.tmp 117) from ev_neZ (by decide)]
    exact E.p14 h
  case p17 =>
    intro h
    simp at h
    rw [show (x.put (some 108) v).eval (.tmp 20) = x.eval (.tmp 20) from ev_neZ (by decide)]
    exact E.p17 h
  case a15 =>
    intro h h'
    simp at h
    simp at h'
    rw [show (x.put (some 108) v).eval (.tmp 19) = x.eval (.tmp 19) from ev_neZ (by decide)]
    exact E.a15 h h'
  case b11 =>
    intro h h'
    simp at h
    simp at h'
    rw [show (x.put (some 108) v).eval (.tmp 115) = x.eval (.tmp 115) from ev_neZ (by decide)]
    exact E.b11 h h'
  case jn =>
    intro h h' h''
    simp at h
    simp at h'
    simp at h''
    rw [show (x.put (some 108) v).eval (.tmp 19) = x.eval (.tmp 19) from ev_neZ (by decide)]
    rw [show (x.put (some 108) v).eval (.tmp 115) = x.eval (.tmp 115) from ev_neZ (by decide)]
    exact E.jn h h' h''
  case f16 =>
    intro h
    simp at h
    rw [show (x.put (some 108) v).eval (.tmp 19) = x.eval (.tmp 19) from ev_neZ (by decide)]
    exact E.f16 h
theorem KJ.s5 {a0 x : Act} {W0 W : World} {D : Nat → Bool} (E : KJ a0 W0 lb loff L cl t db p a1 a2 c1 c2 l1 l2 D x W) (hcl : ClsD kaOps D) (hD : D 5 = false) (hs0 : a0.tmps.size = 207) {v : Value} (hv : v = .slice a1 l1.length c1) :
    KJ a0 W0 lb loff L cl t db p a1 a2 c1 c2 l1 l2 (fun k => decide (k = 5) || D k) (x.put (some 109) v) W := by
  have hsz : 109 < x.tmps.size := by rw [E.sz, hs0]; decide
  refine { sz := by rw [← E.sz]; simp [Act.put], df := E.df, ag := fun t h1 h2 h3 => (ev_neZ (by omega)).trans (E.ag t h1 h2 h3), lo := E.lo, v0 := ?v0, v1 := ?v1, v2 := ?v2, v3 := ?v3, v4 := ?v4, v5 := ?v5, v6 := ?v6, v7 := ?v7, v8 := ?v8, v9 := ?v9, v10 := ?v10, p11 := ?p11, p12 := ?p12, p13 := ?p13, p14 := ?p14, p17 := ?p17, a15 := ?a15, b11 := ?b11, jn := ?jn, f16 := ?f16 }
  case v0 =>
    intro h
    simp at h
    rw [show (x.put (some 109) v).eval (.tmp 104) = x.eval (.tmp 104) from ev_neZ (by decide)]
    exact E.v0 h
  case v1 =>
    intro h
    simp at h
    rw [show (x.put (some 109) v).eval (.tmp 105) = x.eval (.tmp 105) from ev_neZ (by decide)]
    exact E.v1 h
  case v2 =>
    intro h
    simp at h
    rw [show (x.put (some 109) v).eval (.tmp 106) = x.eval (.tmp 106) from ev_neZ (by decide)]
    exact E.v2 h
  case v3 =>
    intro h
    simp at h
    rw [show (x.put (some 109) v).eval (.tmp 107) = x.eval (.tmp 107) from ev_neZ (by decide)]
    exact E.v3 h
  case v4 =>
    intro h
    simp at h
    rw [show (x.put (some 109) v).eval (.tmp 108) = x.eval (.tmp 108) from ev_neZ (by decide)]
    exact E.v4 h
  case v5 =>
    intro _
    rw [ev_sameZ hsz]; exact hv
  case v6 =>
    intro h
    simp at h
    rw [show (x.put (some 109) v).eval (.tmp 110) = x.eval (.tmp 110) from ev_neZ (by decide)]
    exact E.v6 h
  case v7 =>
    intro h
    simp at h
    rw [show (x.put (some 109) v).eval (.tmp 111) = x.eval (.tmp 111) from ev_neZ (by decide)]
    exact E.v7 h
  case v8 =>
    intro h
    simp at h
    rw [show (x.put (some 109) v).eval (.tmp 112) = x.eval (.tmp 112) from ev_neZ (by decide)]
    exact E.v8 h
  case v9 =>
    intro h
    simp at h
    rw [show (x.put (some 109) v).eval (.tmp 113) = x.eval (.tmp 113) from ev_neZ (by decide)]
    exact E.v9 h
  case v10 =>
    intro h
    simp at h
    rw [show (x.put (some 109) v).eval (.tmp 114) = x.eval (.tmp 114) from ev_neZ (by decide)]
    exact E.v10 h
  case p11 =>
    intro h
    simp at h
    rw [show (x.put (some 109) v).eval (.tmp 115) = x.eval (.tmp 115) from ev_neZ (by decide)]
    exact E.p11 h
  case p12 =>
    intro h
    simp at h
    rw [show (x.put (some 109) v).eval (.tmp 103) = x.eval (.tmp 103) from ev_neZ (by decide)]
    rw [show (x.put (some 109) v).eval (.tmp 115) = x.eval (.tmp 115) from ev_neZ (by decide)]
    exact E.p12 h
  case p13 =>
    intro h
    simp at h
    rw [show (x.put (some 109) v).eval (.tmp 115) = x.eval (.tmp 115) from ev_neZ (by decide)]
    rw [show (x.put (some 109) v).eval (.tmp 116) = x.eval (.tmp 116) from ev_neZ (by decide)]
    exact E.p13 h
  case p14 =>
    intro h
    simp at h
    rw [show (x.put (some 109) v).eval (.tmp 117) = x.eval (.tmp 117) from ev_neZ (by decide)]
    exact E.p14 h
  case p17 =>
    intro h
    simp at h
    rw [show (x.put (some 109) v).eval (.tmp 20) = x.eval (.tmp 20) from ev_neZ (by decide)]
    exact E.p17 h
  case a15 =>
    intro h h'
    simp at h
    simp at h'
    rw [show (x.put (some 109) v).eval (.tmp 19) = x.eval (.tmp 19) from ev_neZ (by decide)]
    exact E.a15 h h'
  case b11 =>
    intro h h'
    simp at h
    simp at h'
    rw [show (x.put (some 109) v).eval (.tmp 115) = x.eval (.tmp 115) from ev_neZ (by decide)]
    exact E.b11 h h'
  case jn =>
    intro h h' h''
    simp at h
    simp at h'
    simp at h''
    rw [show (x.put (some 109) v).eval (.tmp 19) = x.eval (.tmp 19) from ev_neZ (by decide)]
    rw [show (x.put (some 109) v).eval (.tmp 115) = x.eval (.tmp 115) from ev_neZ (by decide)]
    exact E.jn h h' h''
  case f16 =>
    intro h
    simp at h
    rw [show (x.put (some 109) v).eval (.tmp 19) = x.eval (.tmp 19) from ev_neZ (by decide)]
    exact E.f16 h
theorem KJ.s6 {a0 x : Act} {W0 W : World} {D : Nat → Bool} (E : KJ a0 W0 lb loff L cl t db p a1 a2 c1 c2 l1 l2 D x W) (hcl : ClsD kaOps D) (hD : D 6 = false) (hs0 : a0.tmps.size = 207) {v : Value} (hv : v = .slice (some ⟨lb, loff, none⟩) L cl) :
    KJ a0 W0 lb loff L cl t db p a1 a2 c1 c2 l1 l2 (fun k => decide (k = 6) || D k) (x.put (some 110) v) W := by
  have hsz : 110 < x.tmps.size := by rw [E.sz, hs0]; decide
  refine { sz := by rw [← E.sz]; simp [Act.put], df := E.df, ag := fun t h1 h2 h3 => (ev_neZ (by omega)).trans (E.ag t h1 h2 h3), lo := E.lo, v0 := ?v0, v1 := ?v1, v2 := ?v2, v3 := ?v3, v4 := ?v4, v5 := ?v5, v6 := ?v6, v7 := ?v7, v8 := ?v8, v9 := ?v9, v10 := ?v10, p11 := ?p11, p12 := ?p12, p13 := ?p13, p14 := ?p14, p17 := ?p17, a15 := ?a15, b11 := ?b11, jn := ?jn, f16 := ?f16 }
  case v0 =>
    intro h
    simp at h
    rw [show (x.put (some 110) v).eval (.tmp 104) = x.eval (.tmp 104) from ev_neZ (by decide)]
    exact E.v0 h
  case v1 =>
    intro h
    simp at h
    rw [show (x.put (some 110) v).eval (.tmp 105) = x.eval (.tmp 105) from ev_neZ (by decide)]
    exact E.v1 h
  case v2 =>
    intro h
    simp at h
    rw [show (x.put (some 110) v).eval (.tmp 106) = x.eval (.tmp 106) from ev_neZ (by decide)]
    exact E.v2 h
  case v3 =>
    intro h
    simp at h
    rw [show (x.put (some 110) v).eval (.tmp 107) = x.eval (.tmp 107) from ev_neZ (by decide)]
    exact E.v3 h
  case v4 =>
    intro h
    simp at h
    rw [show (x.put (some 110) v).eval (.tmp 108) = x.eval (.tmp 108) from ev_neZ (by decide)]
    exact E.v4 h
  case v5 =>
    intro h
    simp at h
    rw [show (x.put (some 110) v).eval (.tmp 109) = x.eval (.tmp 109) from ev_neZ (by decide)]
    exact E.v5 h
  case v6 =>
    intro _
    rw [ev_sameZ hsz]; exact hv
  case v7 =>
    intro h
    simp at h
    rw [show (x.put (some 110) v).eval (.tmp 111) = x.eval (.tmp 111) from ev_neZ (by decide)]
    exact E.v7 h
  case v8 =>
    intro h
    simp at h
    rw [show (x.put (some 110) v).eval (.tmp 112) = x.eval (.tmp 112) from ev_neZ (by decide)]
    exact E.v8 h
  case v9 =>
    intro h
    simp at h
    rw [show (x.put (some 110) v).eval (.tmp 113) = x.eval (.tmp 113) from ev_neZ (by decide)]
    exact E.v9 h
  case v10 =>
    intro h
    simp at h
    rw [show (x.put (some 110) v).eval (.tmp 114) = x.eval (.tmp 114) from ev_neZ (by decide)]
    exact E.v10 h
  case p11 =>
    intro h
    simp at h
    rw [show (x.put (some 110) v).eval (.tmp 115) = x.eval (.tmp 115) from ev_neZ (by decide)]
    exact E.p11 h
  case p12 =>
    intro h
    simp at h
    rw [show (x.put (some 110) v).eval (.tmp 103) = x.eval (.tmp 103) from ev_neZ (by decide)]
    rw [show (x.put (some 110) v).eval (.tmp 115) = x.eval (.tmp 115) from ev_neZ (by decide)]
    exact E.p12 h
  case p13 =>
    intro h
    simp at h
    rw [show (x.put (some 110) v).eval (.tmp 115) = x.eval (.tmp 115) from ev_neZ (by decide)]
    rw [show (x.put (some 110) v).eval (.tmp 116) = x.eval (.tmp 116) from ev_neZ (by decide)]
    exact E.p13 h
  case p14 =>
    intro h
    simp at h
    rw [show (x.put (some 110) v).eval (.tmp 117) = x.eval (.tmp 117) from ev_neZ (by decide)]
    exact E.p14 h
  case p17 =>
    intro h
    simp at h
    rw [show (x.put (some 110) v).eval (.tmp 20) = x.eval (.tmp 20) from ev_neZ (by decide)]
    exact E.p17 h
  case a15 =>
    intro h h'
    simp at h
    simp at h'
    rw [show (x.put (some 110) v).eval (.tmp 19) = x.eval (.tmp 19) from ev_neZ (by decide)]
    exact E.a15 h h'
  case b11 =>
    intro h h'
    simp at h
    simp at h'
    rw [show (x.put (some 110) v).eval (.tmp 115) = x.eval (.tmp 115) from ev_neZ (by decide)]
    exact E.b11 h h'
  case jn =>
    intro h h' h''
    simp at h
    simp at h'
    simp at h''
    rw [show (x.put (some 110) v).eval (.tmp 19) = x.eval (.tmp 19) from ev_neZ (by decide)]
    rw [show (x.put (some 110) v).eval (.tmp 115) = x.eval (.tmp 115) from ev_neZ (by decide)]
    exact E.jn h h' h''
  case f16 =>
    intro h
    simp at h
    rw [show (x.put (some 110) v).eval (.tmp 19) = x.eval (.tmp 19) from ev_neZ (by decide)]
    exact E.f16 h
theorem KJ.s7 {a0 x : Act} {W0 W : World} {D : Nat → Bool} (E : KJ a0 W0 lb loff L cl t db p a1 a2 c1 c2 l1 l2 D x W) (hcl : ClsD kaOps D) (hD : D 7 = false) (hs0 : a0.tmps.size = 207) {v : Value} (hv : v = .int .i64 (t : Int)) :
    KJ a0 W0 lb loff L cl t db p a1 a2 c1 c2 l1 l2 (fun k => decide (k = 7) || D k) (x.put (some 111) v) W := by
  have hsz : 111 < x.tmps.size := by rw [E.sz, hs0]; decide
  refine { sz := by rw [← E.sz]; simp [Act.put], df := E.df, ag := fun t h1 h2 h3 => (ev_neZ (by omega)).trans (E.ag t h1 h2 h3), lo := E.lo, v0 := ?v0, v1 := ?v1, v2 := ?v2, v3 := ?v3, v4 := ?v4, v5 := ?v5, v6 := ?v6, v7 := ?v7, v8 := ?v8, v9 := ?v9, v10 := ?v10, p11 := ?p11, p12 := ?p12, p13 := ?p13, p14 := ?p14, p17 := ?p17, a15 := ?a15, b11 := ?b11, jn := ?jn, f16 := ?f16 }
  case v0 =>
    intro h
    simp at h
    rw [show (x.put (some 111) v).eval (.tmp 104) = x.eval (.tmp 104) from ev_neZ (by decide)]
    exact E.v0 h
  case v1 =>
    intro h
    simp at h
    rw [show (x.put (some 111) v).eval (.tmp 105) = x.eval (.tmp 105) from ev_neZ (by decide)]
    exact E.v1 h
  case v2 =>
    intro h
    simp at h
    rw [show (x.put (some 111) v).eval (.tmp 106) = x.eval (.tmp 106) from ev_neZ (by decide)]
    exact E.v2 h
  case v3 =>
    intro h
    simp at h
    rw [show (x.put (some 111) v).eval (.tmp 107) = x.eval (.tmp 107) from ev_neZ (by decide)]
    exact E.v3 h
  case v4 =>
    intro h
    simp at h
    rw [show (x.put (some 111) v).eval (.tmp 108) = x.eval (.tmp 108) from ev_neZ (by decide)]
    exact E.v4 h
  case v5 =>
    intro h
    simp at h
    rw [show (x.put (some 111) v).eval (.tmp 109) = x.eval (.tmp 109) from ev_neZ (by decide)]
    exact E.v5 h
  case v6 =>
    intro h
    simp at h
    rw [show (x.put (some 111) v).eval (.tmp 110) = x.eval (.tmp 110) from ev_neZ (by decide)]
    exact E.v6 h
  case v7 =>
    intro _
    rw [ev_sameZ hsz]; exact hv
  case v8 =>
    intro h
    simp at h
    rw [show (x.put (some 111) v).eval (.tmp 112) = x.eval (.tmp 112) from ev_neZ (by decide)]
    exact E.v8 h
  case v9 =>
    intro h
    simp at h
    rw [show (x.put (some 111) v).eval (.tmp 113) = x.eval (.tmp 113) from ev_neZ (by decide)]
    exact E.v9 h
  case v10 =>
    intro h
    simp at h
    rw [show (x.put (some 111) v).eval (.tmp 114) = x.eval (.tmp 114) from ev_neZ (by decide)]
    exact E.v10 h
  case p11 =>
    intro h
    simp at h
    rw [show (x.put (some 111) v).eval (.tmp 115) = x.eval (.tmp 115) from ev_neZ (by decide)]
    exact E.p11 h
  case p12 =>
    intro h
    simp at h
    rw [show (x.put (some 111) v).eval (.tmp 103) = x.eval (.tmp 103) from ev_neZ (by decide)]
    rw [show (x.put (some 111) v).eval (.tmp 115) = x.eval (.tmp 115) from ev_neZ (by decide)]
    exact E.p12 h
  case p13 =>
    intro h
    simp at h
    rw [show (x.put (some 111) v).eval (.tmp 115) = x.eval (.tmp 115) from ev_neZ (by decide)]
    rw [show (x.put (some 111) v).eval (.tmp 116) = x.eval (.tmp 116) from ev_neZ (by decide)]
    exact E.p13 h
  case p14 =>
    intro h
    simp at h
    rw [show (x.put (some 111) v).eval (.tmp 117) = x.eval (.tmp 117) from ev_neZ (by decide)]
    exact E.p14 h
  case p17 =>
    intro h
    simp at h
    rw [show (x.put (some 111) v).eval (.tmp 20) = x.eval (.tmp 20) from ev_neZ (by decide)]
    exact E.p17 h
  case a15 =>
    intro h h'
    simp at h
    simp at h'
    rw [show (x.put (some 111) v).eval (.tmp 19) = x.eval (.tmp 19) from ev_neZ (by decide)]
    exact E.a15 h h'
  case b11 =>
    intro h h'
    simp at h
    simp at h'
    rw [show (x.put (some 111) v).eval (.tmp 115) = x.eval (.tmp 115) from ev_neZ (by decide)]
    exact E.b11 h h'
  case jn =>
    intro h h' h''
    simp at h
    simp at h'
    simp at h''
    rw [show (x.put (some 111) v).eval (.tmp 19) = x.eval (.tmp 19) from ev_neZ (by decide)]
    rw [show (x.put (some 111) v).eval (.tmp 115) = x.eval (.tmp 115) from ev_neZ (by decide)]
    exact E.jn h h' h''
  case f16 =>
    intro h
    simp at h
    rw [show (x.put (some 111) v).eval (.tmp 19) = x.eval (.tmp 19) from ev_neZ (by decide)]
    exact E.f16 h
theorem KJ.s8 {a0 x : Act} {W0 W : World} {D : Nat → Bool} (E : KJ a0 W0 lb loff L cl t db p a1 a2 c1 c2 l1 l2 D x W) (hcl : ClsD kaOps D) (hD : D 8 = false) (hs0 : a0.tmps.size = 207) {v : Value} (hv : v = .pointer (some ⟨lb, loff + t * 3, none⟩)) :
    KJ a0 W0 lb loff L cl t db p a1 a2 c1 c2 l1 l2 (fun k => decide (k = 8) || D k) (x.put (some 112) v) W := by
  have hsz : 112 < x.tmps.size := by rw [E.sz, hs0]; decide
  refine { sz := by rw [← E.sz]; simp [Act.put], df := E.df, ag := fun t h1 h2 h3 => (ev_neZ (by omega)).trans (E.ag t h1 h2 h3), lo := E.lo, v0 := ?v0, v1 := ?v1, v2 := ?v2, v3 := ?v3, v4 := ?v4, v5 := ?v5, v6 := ?v6, v7 := ?v7, v8 := ?v8, v9 := ?v9, v10 := ?v10, p11 := ?p11, p12 := ?p12, p13 := ?p13, p14 := ?p14, p17 := ?p17, a15 := ?a15, b11 := ?b11, jn := ?jn, f16 := ?f16 }
  case v0 =>
    intro h
    simp at h
    rw [show (x.put (some 112) v).eval (.tmp 104) = x.eval (.tmp 104) from ev_neZ (by decide)]
    exact E.v0 h
  case v1 =>
    intro h
    simp at h
    rw [show (x.put (some 112) v).eval (.tmp 105) = x.eval (.tmp 105) from ev_neZ (by decide)]
    exact E.v1 h
  case v2 =>
    intro h
    simp at h
    rw [show (x.put (some 112) v).eval (.tmp 106) = x.eval (.tmp 106) from ev_neZ (by decide)]
    exact E.v2 h
  case v3 =>
    intro h
    simp at h
    rw [show (x.put (some 112) v).eval (.tmp 107) = x.eval (.tmp 107) from ev_neZ (by decide)]
    exact E.v3 h
  case v4 =>
    intro h
    simp at h
    rw [show (x.put (some 112) v).eval (.tmp 108) = x.eval (.tmp 108) from ev_neZ (by decide)]
    exact E.v4 h
  case v5 =>
    intro h
    simp at h
    rw [show (x.put (some 112) v).eval (.tmp 109) = x.eval (.tmp 109) from ev_neZ (by decide)]
    exact E.v5 h
  case v6 =>
    intro h
    simp at h
    rw [show (x.put (some 112) v).eval (.tmp 110) = x.eval (.tmp 110) from ev_neZ (by decide)]
    exact E.v6 h
  case v7 =>
    intro h
    simp at h
    rw [show (x.put (some 112) v).eval (.tmp 111) = x.eval (.tmp 111) from ev_neZ (by decide)]
    exact E.v7 h
  case v8 =>
    intro _
    rw [ev_sameZ hsz]; exact hv
  case v9 =>
    intro h
    simp at h
    rw [show (x.put (some 112) v).eval (.tmp 113) = x.eval (.tmp 113) from ev_neZ (by decide)]
    exact E.v9 h
  case v10 =>
    intro h
    simp at h
    rw [show (x.put (some 112) v).eval (.tmp 114) = x.eval (.tmp 114) from ev_neZ (by decide)]
    exact E.v10 h
  case p11 =>
    intro h
    simp at h
    rw [show (x.put (some 112) v).eval (.tmp 115) = x.eval (.tmp 115) from ev_neZ (by decide)]
    exact E.p11 h
  case p12 =>
    intro h
    simp at h
    rw [show (x.put (some 112) v).eval (.tmp 103) = x.eval (.tmp 103) from ev_neZ (by decide)]
    rw [show (x.put (some 112) v).eval (.tmp 115) = x.eval (.tmp 115) from ev_neZ (by decide)]
    exact E.p12 h
  case p13 =>
    intro h
    simp at h
    rw [show (x.put (some 112) v).eval (.tmp 115) = x.eval (.tmp 115) from ev_neZ (by decide)]
    rw [show (x.put (some 112) v).eval (.tmp 116) = x.eval (.tmp 116) from ev_neZ (by decide)]
    exact E.p13 h
  case p14 =>
    intro h
    simp at h
    rw [show (x.put (some 112) v).eval (.tmp 117) = x.eval (.tmp 117) from ev_neZ (by decide)]
    exact E.p14 h
  case p17 =>
    intro h
    simp at h
    rw [show (x.put (some 112) v).eval (.tmp 20) = x.eval (.tmp 20) from ev_neZ (by decide)]
    exact E.p17 h
  case a15 =>
    intro h h'
    simp at h
    simp at h'
    rw [show (x.put (some 112) v).eval (.tmp 19) = x.eval (.tmp 19) from ev_neZ (by decide)]
    exact E.a15 h h'
  case b11 =>
    intro h h'
    simp at h
    simp at h'
    rw [show (x.put (some 112) v).eval (.tmp 115) = x.eval (.tmp 115) from ev_neZ (by decide)]
    exact E.b11 h h'
  case jn =>
    intro h h' h''
    simp at h
    simp at h'
    simp at h''
    rw [show (x.put (some 112) v).eval (.tmp 19) = x.eval (.tmp 19) from ev_neZ (by decide)]
    rw [show (x.put (some 112) v).eval (.tmp 115) = x.eval (.tmp 115) from ev_neZ (by decide)]
    exact E.jn h h' h''
  case f16 =>
    intro h
    simp at h
    rw [show (x.put (some 112) v).eval (.tmp 19) = x.eval (.tmp 19) from ev_neZ (by decide)]
    exact E.f16 h
theorem KJ.s9 {a0 x : Act} {W0 W : World} {D : Nat → Bool} (E : KJ a0 W0 lb loff L cl t db p a1 a2 c1 c2 l1 l2 D x W) (hcl : ClsD kaOps D) (hD : D 9 = false) (hs0 : a0.tmps.size = 207) {v : Value} (hv : v = .pointer (some ⟨lb, loff + t * 3 + 2, none⟩)) :
    KJ a0 W0 lb loff L cl t db p a1 a2 c1 c2 l1 l2 (fun k => decide (k = 9) || D k) (x.put (some 113) v) W := by
  have hsz : 113 < x.tmps.size := by rw [E.sz, hs0]; decide
  refine { sz := by rw [← E.sz]; simp [Act.put], df := E.df, ag := fun t h1 h2 h3 => (ev_neZ (by omega)).trans (E.ag t h1 h2 h3), lo := E.lo, v0 := ?v0, v1 := ?v1, v2 := ?v2, v3 := ?v3, v4 := ?v4, v5 := ?v5, v6 := ?v6, v7 := ?v7, v8 := ?v8, v9 := ?v9, v10 := ?v10, p11 := ?p11, p12 := ?p12, p13 := ?p13, p14 := ?p14, p17 := ?p17, a15 := ?a15, b11 := ?b11, jn := ?jn, f16 := ?f16 }
  case v0 =>
    intro h
    simp at h
    rw [show (x.put (some 113) v).eval (.tmp 104) = x.eval (.tmp 104) from ev_neZ (by decide)]
    exact E.v0 h
  case v1 =>
    intro h
    simp at h
    rw [show (x.put (some 113) v).eval (.tmp 105) = x.eval (.tmp 105) from ev_neZ (by decide)]
    exact E.v1 h
  case v2 =>
    intro h
    simp at h
    rw [show (x.put (some 113) v).eval (.tmp 106) = x.eval (.tmp 106) from ev_neZ (by decide)]
    exact E.v2 h
  case v3 =>
    intro h
    simp at h
    rw [show (x.put (some 113) v).eval (.tmp 107) = x.eval (.tmp 107) from ev_neZ (by decide)]
    exact E.v3 h
  case v4 =>
    intro h
    simp at h
    rw [show (x.put (some 113) v).eval (.tmp 108) = x.eval (.tmp 108) from ev_neZ (by decide)]
    exact E.v4 h
  case v5 =>
    intro h
    simp at h
    rw [show (x.put (some 113) v).eval (.tmp 109) = x.eval (.tmp 109) from ev_neZ (by decide)]
    exact E.v5 h
  case v6 =>
    intro h
    simp at h
    rw [show (x.put (some 113) v).eval (.tmp 110) = x.eval (.tmp 110) from ev_neZ (by decide)]
    exact E.v6 h
  case v7 =>
    intro h
    simp at h
    rw [show (x.put (some 113) v).eval (.tmp 111) = x.eval (.tmp 111) from ev_neZ (by decide)]
    exact E.v7 h
  case v8 =>
    intro h
    simp at h
    rw [show (x.put (some 113) v).eval (.tmp 112) = x.eval (.tmp 112) from ev_neZ (by decide)]
    exact E.v8 h
  case v9 =>
    intro _
    rw [ev_sameZ hsz]; exact hv
  case v10 =>
    intro h
    simp at h
    rw [show (x.put (some 113) v).eval (.tmp 114) = x.eval (.tmp 114) from ev_neZ (by decide)]
    exact E.v10 h
  case p11 =>
    intro h
    simp at h
    rw [show (x.put (some 113) v).eval (.tmp 115) = x.eval (.tmp 115) from ev_neZ (by decide)]
    exact E.p11 h
  case p12 =>
    intro h
    simp at h
    rw [show (x.put (some 113) v).eval (.tmp 103) = x.eval (.tmp 103) from ev_neZ (by decide)]
    rw [show (x.put (some 113) v).eval (.tmp 115) = x.eval (.tmp 115) from ev_neZ (by decide)]
    exact E.p12 h
  case p13 =>
    intro h
    simp at h
    rw [show (x.put (some 113) v).eval (.tmp 115) = x.eval (.tmp 115) from ev_neZ (by decide)]
    rw [show (x.put (some 113) v).eval (.tmp 116) = x.eval (.tmp 116) from ev_neZ (by decide)]
    exact E.p13 h
  case p14 =>
    intro h
    simp at h
    rw [show (x.put (some 113) v).eval (.tmp 117) = x.eval (.tmp 117) from ev_neZ (by decide)]
    exact E.p14 h
  case p17 =>
    intro h
    simp at h
    rw [show (x.put (some 113) v).eval (.tmp 20) = x.eval (.tmp 20) from ev_neZ (by decide)]
    exact E.p17 h
  case a15 =>
    intro h h'
    simp at h
    simp at h'
    rw [show (x.put (some 113) v).eval (.tmp 19) = x.eval (.tmp 19) from ev_neZ (by decide)]
    exact E.a15 h h'
  case b11 =>
    intro h h'
    simp at h
    simp at h'
    rw [show (x.put (some 113) v).eval (.tmp 115) = x.eval (.tmp 115) from ev_neZ (by decide)]
    exact E.b11 h h'
  case jn =>
    intro h h' h''
    simp at h
    simp at h'
    simp at h''
    rw [show (x.put (some 113) v).eval (.tmp 19) = x.eval (.tmp 19) from ev_neZ (by decide)]
    rw [show (x.put (some 113) v).eval (.tmp 115) = x.eval (.tmp 115) from ev_neZ (by decide)]
    exact E.jn h h' h''
  case f16 =>
    intro h
    simp at h
    rw [show (x.put (some 113) v).eval (.tmp 19) = x.eval (.tmp 19) from ev_neZ (by decide)]
    exact E.f16 h
theorem KJ.s10 {a0 x : Act} {W0 W : World} {D : Nat → Bool} (E : KJ a0 W0 lb loff L cl t db p a1 a2 c1 c2 l1 l2 D x W) (hcl : ClsD kaOps D) (hD : D 10 = false) (hs0 : a0.tmps.size = 207) {v : Value} (hv : v = .slice a2 l2.length c2) :
    KJ a0 W0 lb loff L cl t db p a1 a2 c1 c2 l1 l2 (fun k => decide (k = 10) || D k) (x.put (some 114) v) W := by
  have hsz : 114 < x.tmps.size := by rw [E.sz, hs0]; decide
  refine { sz := by rw [← E.sz]; simp [Act.put], df := E.df, ag := fun t h1 h2 h3 => (ev_neZ (by omega)).trans (E.ag t h1 h2 h3), lo := E.lo, v0 := ?v0, v1 := ?v1, v2 := ?v2, v3 := ?v3, v4 := ?v4, v5 := ?v5, v6 := ?v6, v7 := ?v7, v8 := ?v8, v9 := ?v9, v10 := ?v10, p11 := ?p11, p12 := ?p12, p13 := ?p13, p14 := ?p14, p17 := ?p17, a15 := ?a15, b11 := ?b11, jn := ?jn, f16 := ?f16 }
  case v0 =>
    intro h
    simp at h
    rw [show (x.put (some 114) v).eval (.tmp 104) = x.eval (.tmp 104) from ev_neZ (by decide)]
    exact E.v0 h
  case v1 =>
    intro h
    simp at h
    rw [show (x.put (some 114) v).eval (.tmp 105) = x.eval (.tmp 105) from ev_neZ (by decide)]
    exact E.v1 h
  case v2 =>
    intro h
    simp at h
    rw [show (x.put (some 114) v).eval (.tmp 106) = x.eval (.tmp 106) from ev_neZ (by decide)]
    exact E.v2 h
  case v3 =>
    intro h
    simp at h
    rw [show (x.put (some 114) v).eval (.tmp 107) = x.eval (.tmp 107) from ev_neZ (by decide)]
    exact E.v3 h
  case v4 =>
    intro h
    simp at h
    rw [show (x.put (some 114) v).eval (.tmp 108) = x.eval (.tmp 108) from ev_neZ (by decide)]
    exact E.v4 h
  case v5 =>
    intro h
    simp at h
    rw [show (x.put (some 114) v).eval (.tmp 109) = x.eval (.tmp 109) from ev_neZ (by decide)]
    exact E.v5 h
  case v6 =>
    intro h
    simp at h
    rw [show (x.put (some 114) v).eval (.tmp 110) = x.eval (.tmp 110) from ev_neZ (by decide)]
    exact E.v6 h
  case v7 =>
    intro h
    simp at h
    rw [show (x.put (some 114) v).eval (.tmp 111) = x.eval (.tmp 111) from ev_neZ (by decide)]
    exact E.v7 h
  case v8 =>
    intro h
    simp at h
    rw [show (x.put (some 114) v).eval (.tmp 112) = x.eval (.tmp 112) from ev_neZ (by decide)]
    exact E.v8 h
  case v9 =>
    intro h
    simp at h
    rw [show (x.put (some 114) v).eval (.tmp 113) = x.eval (.tmp 113) from ev_neZ (by decide)]
    exact E.v9 h
  case v10 =>
    intro _
    rw [ev_sameZ hsz]; exact hv
  case p11 =>
    intro h
    simp at h
    rw [show (x.put (some 114) v).eval (.tmp 115) = x.eval (.tmp 115) from ev_neZ (by decide)]
    exact E.p11 h
  case p12 =>
    intro h
    simp at h
    rw [show (x.put (some 114) v).eval (.tmp 103) = x.eval (.tmp 103) from ev_neZ (by decide)]
    rw [show (x.put (some 114) v).eval (.tmp 115) = x.eval (.tmp 115) from ev_neZ (by decide)]
    exact E.p12 h
  case p13 =>
    intro h
    simp at h
    rw [show (x.put (some 114) v).eval (.tmp 115) = x.eval (.tmp 115) from ev_neZ (by decide)]
    rw [show (x.put (some 114) v).eval (.tmp 116) = x.eval (.tmp 116) from ev_neZ (by decide)]
    exact E.p13 h
  case p14 =>
    intro h
    simp at h
    rw [show (x.put (some 114) v).eval (.tmp 117) = x.eval (.tmp 117) from ev_neZ (by decide)]
    exact E.p14 h
  case p17 =>
    intro h
    simp at h
    rw [show (x.put (some 114) v).eval (.tmp 20) = x.eval (.tmp 20) from ev_neZ (by decide)]
    exact E.p17 h
  case a15 =>
    intro h h'
    simp at h
    simp at h'
    rw [show (x.put (some 114) v).eval (.tmp 19) = x.eval (.tmp 19) from ev_neZ (by decide)]
    exact E.a15 h h'
  case b11 =>
    intro h h'
    simp at h
    simp at h'
    rw [show (x.put (some 114) v).eval (.tmp 115) = x.eval (.tmp 115) from ev_neZ (by decide)]
    exact E.b11 h h'
  case jn =>
    intro h h' h''
    simp at h
    simp at h'
    simp at h''
    rw [show (x.put (some 114) v).eval (.tmp 19) = x.eval (.tmp 19) from ev_neZ (by decide)]
    rw [show (x.put (some 114) v).eval (.tmp 115) = x.eval (.tmp 115) from ev_neZ (by decide)]
    exact E.jn h h' h''
  case f16 =>
    intro h
    simp at h
    rw [show (x.put (some 114) v).eval (.tmp 19) = x.eval (.tmp 19) from ev_neZ (by decide)]
    exact E.f16 h
theorem KJ.s11 {a0 x : Act} {W0 W : World} {D : Nat → Bool} (E : KJ a0 W0 lb loff L cl t db p a1 a2 c1 c2 l1 l2 D x W) (hcl : ClsD kaOps D) (hD : D 11 = false) (hs0 : a0.tmps.size = 207) {v : Value} {p7 : Cv} (hv : v = .tuple #[cvV p7, .int .i64 (putV p.cs l1 l2).2]) (h1 : p7.cs = (putV p.cs l1 l2).1) (h2 : Cok p7) (h3 : StR W0 p p7 W) (h4 : ∀ nb, x.eval (.tmp 19) = .pointer (some ⟨nb, 0, none⟩) → D 15 = true → D 16 = false → StE W0 p nb p7 W) :
    KJ a0 W0 lb loff L cl t db p a1 a2 c1 c2 l1 l2 (fun k => decide (k = 11) || D k) (x.put (some 115) v) W := by
  have hD16 : D 16 = false := by
    cases h : D 16 with
    | false => rfl
    | true => exact absurd (hcl 16 ka16 rfl h ⟨11, .chain⟩ (by simp [ka16]) rfl) (by rw [hD]; decide)
  have hsz : 115 < x.tmps.size := by rw [E.sz, hs0]; decide
  refine { sz := by rw [← E.sz]; simp [Act.put], df := E.df, ag := fun t h1 h2 h3 => (ev_neZ (by omega)).trans (E.ag t h1 h2 h3), lo := E.lo, v0 := ?v0, v1 := ?v1, v2 := ?v2, v3 := ?v3, v4 := ?v4, v5 := ?v5, v6 := ?v6, v7 := ?v7, v8 := ?v8, v9 := ?v9, v10 := ?v10, p11 := ?p11, p12 := ?p12, p13 := ?p13, p14 := ?p14, p17 := ?p17, a15 := ?a15, b11 := ?b11, jn := ?jn, f16 := ?f16 }
  case v0 =>
    intro h
    simp at h
    rw [show (x.put (some 115) v).eval (.tmp 104) = x.eval (.tmp 104) from ev_neZ (by decide)]
    exact E.v0 h
  case v1 =>
    intro h
    simp at h
    rw [show (x.put (some 115) v).eval (.tmp 105) = x.eval (.tmp 105) from ev_neZ (by decide)]
    exact E.v1 h
  case v2 =>
    intro h
    simp at h
    rw [show (x.put (some 115) v).eval (.tmp 106) = x.eval (.tmp 106) from ev_neZ (by decide)]
    exact E.v2 h
  case v3 =>
    intro h
    simp at h
    rw [show (x.put (some 115) v).eval (.tmp 107) = x.eval (.tmp 107) from ev_neZ (by decide)]
    exact E.v3 h
  case v4 =>
    intro h
    simp at h
    rw [show (x.put (some 115) v).eval (.tmp 108) = x.eval (.tmp 108) from ev_neZ (by decide)]
    exact E.v4 h
  case v5 =>
    intro h
    simp at h
    rw [show (x.put (some 115) v).eval (.tmp 109) = x.eval (.tmp 109) from ev_neZ (by decide)]
    exact E.v5 h
  case v6 =>
    intro h
    simp at h
    rw [show (x.put (some 115) v).eval (.tmp 110) = x.eval (.tmp 110) from ev_neZ (by decide)]
    exact E.v6 h
  case v7 =>
    intro h
    simp at h
    rw [show (x.put (some 115) v).eval (.tmp 111) = x.eval (.tmp 111) from ev_neZ (by decide)]
    exact E.v7 h
  case v8 =>
    intro h
    simp at h
    rw [show (x.put (some 115) v).eval (.tmp 112) = x.eval (.tmp 112) from ev_neZ (by decide)]
    exact E.v8 h
  case v9 =>
    intro h
    simp at h
    rw [show (x.put (some 115) v).eval (.tmp 113) = x.eval (.tmp 113) from ev_neZ (by decide)]
    exact E.v9 h
  case v10 =>
    intro h
    simp at h
    rw [show (x.put (some 115) v).eval (.tmp 114) = x.eval (.tmp 114) from ev_neZ (by decide)]
    exact E.v10 h
  case p11 =>
    intro _
    rw [ev_sameZ hsz]; exact ⟨p7, hv⟩
  case p12 =>
    intro h
    simp at h
    exact absurd (hcl 12 ka12 rfl h ⟨11, .data⟩ (by simp [ka12]) rfl) (by rw [hD]; decide)
  case p13 =>
    intro h
    simp at h
    exact absurd (hcl 12 ka12 rfl (hcl 13 ka13 rfl h ⟨12, .data⟩ (by simp [ka13]) rfl) ⟨11, .data⟩ (by simp [ka12]) rfl) (by rw [hD]; decide)
  case p14 =>
    intro h
    simp at h
    rw [show (x.put (some 115) v).eval (.tmp 117) = x.eval (.tmp 117) from ev_neZ (by decide)]
    exact E.p14 h
  case p17 =>
    intro h
    simp at h
    rw [show (x.put (some 115) v).eval (.tmp 20) = x.eval (.tmp 20) from ev_neZ (by decide)]
    exact E.p17 h
  case a15 =>
    intro h h'
    simp at h
    simp at h'
    rw [show (x.put (some 115) v).eval (.tmp 19) = x.eval (.tmp 19) from ev_neZ (by decide)]
    exact E.a15 h h'
  case b11 =>
    intro _ _
    rw [ev_sameZ hsz]; exact ⟨p7, hv, h1, h2, h3⟩
  case jn =>
    intro _ h' h''
    simp at h' h''
    obtain ⟨nb, e, -⟩ := E.a15 h' h''
    rw [ev_sameZ hsz, show (x.put (some 115) v).eval (.tmp 19) = x.eval (.tmp 19) from ev_neZ (by decide)]
    exact ⟨nb, p7, e, hv, h1, h2, h4 nb e h' h''⟩
  case f16 =>
    intro h
    simp at h
    rw [show (x.put (some 115) v).eval (.tmp 19) = x.eval (.tmp 19) from ev_neZ (by decide)]
    exact E.f16 h
theorem KJ.s12 {a0 x : Act} {W0 W : World} {D : Nat → Bool} (E : KJ a0 W0 lb loff L cl t db p a1 a2 c1 c2 l1 l2 D x W) (hcl : ClsD kaOps D) (hD : D 12 = false) (hs0 : a0.tmps.size = 207) {v : Value} (hv : v = x.eval (.tmp 115)) :
    KJ a0 W0 lb loff L cl t db p a1 a2 c1 c2 l1 l2 (fun k => decide (k = 12) || D k) (x.put (some 103) v) W := by
  have hsz : 103 < x.tmps.size := by rw [E.sz, hs0]; decide
  refine { sz := by rw [← E.sz]; simp [Act.put], df := E.df, ag := fun t h1 h2 h3 => (ev_neZ (by omega)).trans (E.ag t h1 h2 h3), lo := E.lo, v0 := ?v0, v1 := ?v1, v2 := ?v2, v3 := ?v3, v4 := ?v4, v5 := ?v5, v6 := ?v6, v7 := ?v7, v8 := ?v8, v9 := ?v9, v10 := ?v10, p11 := ?p11, p12 := ?p12, p13 := ?p13, p14 := ?p14, p17 := ?p17, a15 := ?a15, b11 := ?b11, jn := ?jn, f16 := ?f16 }
  case v0 =>
    intro h
    simp at h
    rw [show (x.put (some 103) v).eval (.tmp 104) = x.eval (.tmp 104) from ev_neZ (by decide)]
    exact E.v0 h
  case v1 =>
    intro h
    simp at h
    rw [show (x.put (some 103) v).eval (.tmp 105) = x.eval (.tmp 105) from ev_neZ (by decide)]
    exact E.v1 h
  case v2 =>
    intro h
    simp at h
    rw [show (x.put (some 103) v).eval (.tmp 106) = x.eval (.tmp 106) from ev_neZ (by decide)]
    exact E.v2 h
  case v3 =>
    intro h
    simp at h
    rw [show (x.put (some 103) v).eval (.tmp 107) = x.eval (.tmp 107) from ev_neZ (by decide)]
    exact E.v3 h
  case v4 =>
    intro h
    simp at h
    rw [show (x.put (some 103) v).eval (.tmp 108) = x.eval (.tmp 108) from ev_neZ (by decide)]
    exact E.v4 h
  case v5 =>
    intro h
    simp at h
    rw [show (x.put (some 103) v).eval (.tmp 109) = x.eval (.tmp 109) from ev_neZ (by decide)]
    exact E.v5 h
  case v6 =>
    intro h
    simp at h
    rw [show (x.put (some 103) v).eval (.tmp 110) = x.eval (.tmp 110) from ev_neZ (by decide)]
    exact E.v6 h
  case v7 =>
    intro h
    simp at h
    rw [show (x.put (some 103) v).eval (.tmp 111) = x.eval (.tmp 111) from ev_neZ (by decide)]
    exact E.v7 h
  case v8 =>
    intro h
    simp at h
    rw [show (x.put (some 103) v).eval (.tmp 112) = x.eval (.tmp 112) from ev_neZ (by decide)]
    exact E.v8 h
  case v9 =>
    intro h
    simp at h
    rw [show (x.put (some 103) v).eval (.tmp 113) = x.eval (.tmp 113) from ev_neZ (by decide)]
    exact E.v9 h
  case v10 =>
    intro h
    simp at h
    rw [show (x.put (some 103) v).eval (.tmp 114) = x.eval (.tmp 114) from ev_neZ (by decide)]
    exact E.v10 h
  case p11 =>
    intro h
    simp at h
    rw [show (x.put (some 103) v).eval (.tmp 115) = x.eval (.tmp 115) from ev_neZ (by decide)]
    exact E.p11 h
  case p12 =>
    intro _
    rw [ev_sameZ hsz, show (x.put (some 103) v).eval (.tmp 115) = x.eval (.tmp 115) from ev_neZ (by decide)]; exact hv
  case p13 =>
    intro h
    simp at h
    rw [show (x.put (some 103) v).eval (.tmp 115) = x.eval (.tmp 115) from ev_neZ (by decide)]
    rw [show (x.put (some 103) v).eval (.tmp 116) = x.eval (.tmp 116) from ev_neZ (by decide)]
    exact E.p13 h
  case p14 =>
    intro h
    simp at h
    rw [show (x.put (some 103) v).eval (.tmp 117) = x.eval (.tmp 117) from ev_neZ (by decide)]
    exact E.p14 h
  case p17 =>
    intro h
    simp at h
    rw [show (x.put (some 103) v).eval (.tmp 20) = x.eval (.tmp 20) from ev_neZ (by decide)]
    exact E.p17 h
  case a15 =>
    intro h h'
    simp at h
    simp at h'
    rw [show (x.put (some 103) v).eval (.tmp 19) = x.eval (.tmp 19) from ev_neZ (by decide)]
    exact E.a15 h h'
  case b11 =>
    intro h h'
    simp at h
    simp at h'
    rw [show (x.put (some 103) v).eval (.tmp 115) = x.eval (.tmp 115) from ev_neZ (by decide)]
    exact E.b11 h h'
  case jn =>
    intro h h' h''
    simp at h
    simp at h'
    simp at h''
    rw [show (x.put (some 103) v).eval (.tmp 19) = x.eval (.tmp 19) from ev_neZ (by decide)]
    rw [show (x.put (some 103) v).eval (.tmp 115) = x.eval (.tmp 115) from ev_neZ (by decide)]
    exact E.jn h h' h''
  case f16 =>
    intro h
    simp at h
    rw [show (x.put (some 103) v).eval (.tmp 19) = x.eval (.tmp 19) from ev_neZ (by decide)]
    exact E.f16 h
theorem KJ.s13 {a0 x : Act} {W0 W : World} {D : Nat → Bool} (E : KJ a0 W0 lb loff L cl t db p a1 a2 c1 c2 l1 l2 D x W) (hcl : ClsD kaOps D) (hD : D 13 = false) (hs0 : a0.tmps.size = 207) {v : Value} {p7 : Cv} (h0 : x.eval (.tmp 115) = .tuple #[cvV p7, .int .i64 (putV p.cs l1 l2).2]) (hv : v = cvV p7) :
    KJ a0 W0 lb loff L cl t db p a1 a2 c1 c2 l1 l2 (fun k => decide (k = 13) || D k) (x.put (some 116) v) W := by
  have hsz : 116 < x.tmps.size := by rw [E.sz, hs0]; decide
  refine { sz := by rw [← E.sz]; simp [Act.put], df := E.df, ag := fun t h1 h2 h3 => (ev_neZ (by omega)).trans (E.ag t h1 h2 h3), lo := E.lo, v0 := ?v0, v1 := ?v1, v2 := ?v2, v3 := ?v3, v4 := ?v4, v5 := ?v5, v6 := ?v6, v7 := ?v7, v8 := ?v8, v9 := ?v9, v10 := ?v10, p11 := ?p11, p12 := ?p12, p13 := ?p13, p14 := ?p14, p17 := ?p17, a15 := ?a15, b11 := ?b11, jn := ?jn, f16 := ?f16 }
  case v0 =>
    intro h
    simp at h
    rw [show (x.put (some 116) v).eval (.tmp 104) = x.eval (.tmp 104) from ev_neZ (by decide)]
    exact E.v0 h
  case v1 =>
    intro h
    simp at h
    rw [show (x.put (some 116) v).eval (.tmp 105) = x.eval (.tmp 105) from ev_neZ (by decide)]
    exact E.v1 h
  case v2 =>
    intro h
    simp at h
    rw [show (x.put (some 116) v).eval (.tmp 106) = x.eval (.tmp 106) from ev_neZ (by decide)]
    exact E.v2 h
  case v3 =>
    intro h
    simp at h
    rw [show (x.put (some 116) v).eval (.tmp 107) = x.eval (.tmp 107) from ev_neZ (by decide)]
    exact E.v3 h
  case v4 =>
    intro h
    simp at h
    rw [show (x.put (some 116) v).eval (.tmp 108) = x.eval (.tmp 108) from ev_neZ (by decide)]
    exact E.v4 h
  case v5 =>
    intro h
    simp at h
    rw [show (x.put (some 116) v).eval (.tmp 109) = x.eval (.tmp 109) from ev_neZ (by decide)]
    exact E.v5 h
  case v6 =>
    intro h
    simp at h
    rw [show (x.put (some 116) v).eval (.tmp 110) = x.eval (.tmp 110) from ev_neZ (by decide)]
    exact E.v6 h
  case v7 =>
    intro h
    simp at h
    rw [show (x.put (some 116) v).eval (.tmp 111) = x.eval (.tmp 111) from ev_neZ (by decide)]
    exact E.v7 h
  case v8 =>
    intro h
    simp at h
    rw [show (x.put (some 116) v).eval (.tmp 112) = x.eval (.tmp 112) from ev_neZ (by decide)]
    exact E.v8 h
  case v9 =>
    intro h
    simp at h
    rw [show (x.put (some 116) v).eval (.tmp 113) = x.eval (.tmp 113) from ev_neZ (by decide)]
    exact E.v9 h
  case v10 =>
    intro h
    simp at h
    rw [show (x.put (some 116) v).eval (.tmp 114) = x.eval (.tmp 114) from ev_neZ (by decide)]
    exact E.v10 h
  case p11 =>
    intro h
    simp at h
    rw [show (x.put (some 116) v).eval (.tmp 115) = x.eval (.tmp 115) from ev_neZ (by decide)]
    exact E.p11 h
  case p12 =>
    intro h
    simp at h
    rw [show (x.put (some 116) v).eval (.tmp 103) = x.eval (.tmp 103) from ev_neZ (by decide)]
    rw [show (x.put (some 116) v).eval (.tmp 115) = x.eval (.tmp 115) from ev_neZ (by decide)]
    exact E.p12 h
  case p13 =>
    intro _
    rw [ev_sameZ hsz, show (x.put (some 116) v).eval (.tmp 115) = x.eval (.tmp 115) from ev_neZ (by decide)]; exact ⟨p7, h0, hv⟩
  case p14 =>
    intro h
    simp at h
    rw [show (x.put (some 116) v).eval (.tmp 117) = x.eval (.tmp 117) from ev_neZ (by decide)]
    exact E.p14 h
  case p17 =>
    intro h
    simp at h
    rw [show (x.put (some 116) v).eval (.tmp 20) = x.eval (.tmp 20) from ev_neZ (by decide)]
    exact E.p17 h
  case a15 =>
    intro h h'
    simp at h
    simp at h'
    rw [show (x.put (some 116) v).eval (.tmp 19) = x.eval (.tmp 19) from ev_neZ (by decide)]
    exact E.a15 h h'
  case b11 =>
    intro h h'
    simp at h
    simp at h'
    rw [show (x.put (some 116) v).eval (.tmp 115) = x.eval (.tmp 115) from ev_neZ (by decide)]
    exact E.b11 h h'
  case jn =>
    intro h h' h''
    simp at h
    simp at h'
    simp at h''
    rw [show (x.put (some 116) v).eval (.tmp 19) = x.eval (.tmp 19) from ev_neZ (by decide)]
    rw [show (x.put (some 116) v).eval (.tmp 115) = x.eval (.tmp 115) from ev_neZ (by decide)]
    exact E.jn h h' h''
  case f16 =>
    intro h
    simp at h
    rw [show (x.put (some 116) v).eval (.tmp 19) = x.eval (.tmp 19) from ev_neZ (by decide)]
    exact E.f16 h
theorem KJ.s14 {a0 x : Act} {W0 W : World} {D : Nat → Bool} (E : KJ a0 W0 lb loff L cl t db p a1 a2 c1 c2 l1 l2 D x W) (hcl : ClsD kaOps D) (hD : D 14 = false) (hs0 : a0.tmps.size = 207) {v : Value} (hv : v = .int .i64 (putV p.cs l1 l2).2) :
    KJ a0 W0 lb loff L cl t db p a1 a2 c1 c2 l1 l2 (fun k => decide (k = 14) || D k) (x.put (some 117) v) W := by
  have hsz : 117 < x.tmps.size := by rw [E.sz, hs0]; decide
  refine { sz := by rw [← E.sz]; simp [Act.put], df := E.df, ag := fun t h1 h2 h3 => (ev_neZ (by omega)).trans (E.ag t h1 h2 h3), lo := E.lo, v0 := ?v0, v1 := ?v1, v2 := ?v2, v3 := ?v3, v4 := ?v4, v5 := ?v5, v6 := ?v6, v7 := ?v7, v8 := ?v8, v9 := ?v9, v10 := ?v10, p11 := ?p11, p12 := ?p12, p13 := ?p13, p14 := ?p14, p17 := ?p17, a15 := ?a15, b11 := ?b11, jn := ?jn, f16 := ?f16 }
  case v0 =>
    intro h
    simp at h
    rw [show (x.put (some 117) v).eval (.tmp 104) = x.eval (.tmp 104) from ev_neZ (by decide)]
    exact E.v0 h
  case v1 =>
    intro h
    simp at h
    rw [show (x.put (some 117) v).eval (.tmp 105) = x.eval (.tmp 105) from ev_neZ (by decide)]
    exact E.v1 h
  case v2 =>
    intro h
    simp at h
    rw [show (x.put (some 117) v).eval (.tmp 106) = x.eval (.tmp 106) from ev_neZ (by decide)]
    exact E.v2 h
  case v3 =>
    intro h
    simp at h
    rw [show (x.put (some 117) v).eval (.tmp 107) = x.eval (.tmp 107) from ev_neZ (by decide)]
    exact E.v3 h
  case v4 =>
    intro h
    simp at h
    rw [show (x.put (some 117) v).eval (.tmp 108) = x.eval (.tmp 108) from ev_neZ (by decide)]
    exact E.v4 h
  case v5 =>
    intro h
    simp at h
    rw [show (x.put (some 117) v).eval (.tmp 109) = x.eval (.tmp 109) from ev_neZ (by decide)]
    exact E.v5 h
  case v6 =>
    intro h
    simp at h
    rw [show (x.put (some 117) v).eval (.tmp 110) = x.eval (.tmp 110) from ev_neZ (by decide)]
    exact E.v6 h
  case v7 =>
    intro h
    simp at h
    rw [show (x.put (some 117) v).eval (.tmp 111) = x.eval (.tmp 111) from ev_neZ (by decide)]
    exact E.v7 h
  case v8 =>
    intro h
    simp at h
    rw [show (x.put (some 117) v).eval (.tmp 112) = x.eval (.tmp 112) from ev_neZ (by decide)]
    exact E.v8 h
  case v9 =>
    intro h
    simp at h
    rw [show (x.put (some 117) v).eval (.tmp 113) = x.eval (.tmp 113) from ev_neZ (by decide)]
    exact E.v9 h
  case v10 =>
    intro h
    simp at h
    rw [show (x.put (some 117) v).eval (.tmp 114) = x.eval (.tmp 114) from ev_neZ (by decide)]
    exact E.v10 h
  case p11 =>
    intro h
    simp at h
    rw [show (x.put (some 117) v).eval (.tmp 115) = x.eval (.tmp 115) from ev_neZ (by decide)]
    exact E.p11 h
  case p12 =>
    intro h
    simp at h
    rw [show (x.put (some 117) v).eval (.tmp 103) = x.eval (.tmp 103) from ev_neZ (by decide)]
    rw [show (x.put (some 117) v).eval (.tmp 115) = x.eval (.tmp 115) from ev_neZ (by decide)]
    exact E.p12 h
  case p13 =>
    intro h
    simp at h
    rw [show (x.put (some 117) v).eval (.tmp 115) = x.eval (.tmp 115) from ev_neZ (by decide)]
    rw [show (x.put (some 117) v).eval (.tmp 116) = x.eval (.tmp 116) from ev_neZ (by decide)]
    exact E.p13 h
  case p14 =>
    intro _
    rw [ev_sameZ hsz]; exact hv
  case p17 =>
    intro h
    simp at h
    rw [show (x.put (some 117) v).eval (.tmp 20) = x.eval (.tmp 20) from ev_neZ (by decide)]
    exact E.p17 h
  case a15 =>
    intro h h'
    simp at h
    simp at h'
    rw [show (x.put (some 117) v).eval (.tmp 19) = x.eval (.tmp 19) from ev_neZ (by decide)]
    exact E.a15 h h'
  case b11 =>
    intro h h'
    simp at h
    simp at h'
    rw [show (x.put (some 117) v).eval (.tmp 115) = x.eval (.tmp 115) from ev_neZ (by decide)]
    exact E.b11 h h'
  case jn =>
    intro h h' h''
    simp at h
    simp at h'
    simp at h''
    rw [show (x.put (some 117) v).eval (.tmp 19) = x.eval (.tmp 19) from ev_neZ (by decide)]
    rw [show (x.put (some 117) v).eval (.tmp 115) = x.eval (.tmp 115) from ev_neZ (by decide)]
    exact E.jn h h' h''
  case f16 =>
    intro h
    simp at h
    rw [show (x.put (some 117) v).eval (.tmp 19) = x.eval (.tmp 19) from ev_neZ (by decide)]
    exact E.f16 h
theorem KJ.s15 {a0 x : Act} {W0 W : World} {D : Nat → Bool} (E : KJ a0 W0 lb loff L cl t db p a1 a2 c1 c2 l1 l2 D x W) (hcl : ClsD kaOps D) (hD : D 15 = false) (hs0 : a0.tmps.size = 207) {v : Value} (hv : v = .pointer (some ⟨W.heap.size, 0, none⟩)) :
    KJ a0 W0 lb loff L cl t db p a1 a2 c1 c2 l1 l2 (fun k => decide (k = 15) || D k) (x.put (some 19) v) (W.alloc zero12) := by
  have hb := ballo W zero12
  have G := E.grow hb
  have hz : Cb (W.alloc zero12) W.heap.size cv0 := Cb.alloc W cv0 34
  have hsz : 19 < x.tmps.size := by rw [E.sz, hs0]; decide
  refine { sz := by rw [← E.sz]; simp [Act.put], df := E.df, ag := fun t h1 h2 h3 => (ev_neZ (by omega)).trans (E.ag t h1 h2 h3), lo := G.lo, v0 := ?v0, v1 := ?v1, v2 := ?v2, v3 := ?v3, v4 := ?v4, v5 := ?v5, v6 := ?v6, v7 := ?v7, v8 := ?v8, v9 := ?v9, v10 := ?v10, p11 := ?p11, p12 := ?p12, p13 := ?p13, p14 := ?p14, p17 := ?p17, a15 := ?a15, b11 := ?b11, jn := ?jn, f16 := ?f16 }
  case v0 =>
    intro h
    simp at h
    rw [show (x.put (some 19) v).eval (.tmp 104) = x.eval (.tmp 104) from ev_neZ (by decide)]
    exact G.v0 h
  case v1 =>
    intro h
    simp at h
    rw [show (x.put (some 19) v).eval (.tmp 105) = x.eval (.tmp 105) from ev_neZ (by decide)]
    exact G.v1 h
  case v2 =>
    intro h
    simp at h
    rw [show (x.put (some 19) v).eval (.tmp 106) = x.eval (.tmp 106) from ev_neZ (by decide)]
    exact G.v2 h
  case v3 =>
    intro h
    simp at h
    rw [show (x.put (some 19) v).eval (.tmp 107) = x.eval (.tmp 107) from ev_neZ (by decide)]
    exact G.v3 h
  case v4 =>
    intro h
    simp at h
    rw [show (x.put (some 19) v).eval (.tmp 108) = x.eval (.tmp 108) from ev_neZ (by decide)]
    exact G.v4 h
  case v5 =>
    intro h
    simp at h
    rw [show (x.put (some 19) v).eval (.tmp 109) = x.eval (.tmp 109) from ev_neZ (by decide)]
    exact G.v5 h
  case v6 =>
    intro h
    simp at h
    rw [show (x.put (some 19) v).eval (.tmp 110) = x.eval (.tmp 110) from ev_neZ (by decide)]
    exact G.v6 h
  case v7 =>
    intro h
    simp at h
    rw [show (x.put (some 19) v).eval (.tmp 111) = x.eval (.tmp 111) from ev_neZ (by decide)]
    exact G.v7 h
  case v8 =>
    intro h
    simp at h
    rw [show (x.put (some 19) v).eval (.tmp 112) = x.eval (.tmp 112) from ev_neZ (by decide)]
    exact G.v8 h
  case v9 =>
    intro h
    simp at h
    rw [show (x.put (some 19) v).eval (.tmp 113) = x.eval (.tmp 113) from ev_neZ (by decide)]
    exact G.v9 h
  case v10 =>
    intro h
    simp at h
    rw [show (x.put (some 19) v).eval (.tmp 114) = x.eval (.tmp 114) from ev_neZ (by decide)]
    exact G.v10 h
  case p11 =>
    intro h
    simp at h
    rw [show (x.put (some 19) v).eval (.tmp 115) = x.eval (.tmp 115) from ev_neZ (by decide)]
    exact G.p11 h
  case p12 =>
    intro h
    simp at h
    rw [show (x.put (some 19) v).eval (.tmp 103) = x.eval (.tmp 103) from ev_neZ (by decide)]
    rw [show (x.put (some 19) v).eval (.tmp 115) = x.eval (.tmp 115) from ev_neZ (by decide)]
    exact G.p12 h
  case p13 =>
    intro h
    simp at h
    rw [show (x.put (some 19) v).eval (.tmp 115) = x.eval (.tmp 115) from ev_neZ (by decide)]
    rw [show (x.put (some 19) v).eval (.tmp 116) = x.eval (.tmp 116) from ev_neZ (by decide)]
    exact G.p13 h
  case p14 =>
    intro h
    simp at h
    rw [show (x.put (some 19) v).eval (.tmp 117) = x.eval (.tmp 117) from ev_neZ (by decide)]
    exact G.p14 h
  case p17 =>
    intro h
    simp at h
    rw [show (x.put (some 19) v).eval (.tmp 20) = x.eval (.tmp 20) from ev_neZ (by decide)]
    exact G.p17 h
  case a15 =>
    intro _ _
    rw [ev_sameZ hsz]; exact ⟨_, hv, E.lo.size, hz, fun i => by unfold zero12; rw [frozen?_alloc_cells]; exact frzN _ (by simp)⟩
  case b11 =>
    intro h h'
    simp at h
    simp at h'
    rw [show (x.put (some 19) v).eval (.tmp 115) = x.eval (.tmp 115) from ev_neZ (by decide)]
    exact G.b11 h h'
  case jn =>
    intro h _ h''
    simp at h h''
    obtain ⟨p7, e, q1, q2, q3⟩ := E.b11 h h''
    rw [ev_sameZ hsz, show (x.put (some 19) v).eval (.tmp 115) = x.eval (.tmp 115) from ev_neZ (by decide)]
    exact ⟨_, p7, hv, e, q1, q2, q3.new E.lo.size hb⟩
  case f16 =>
    intro h
    simp at h
    exact absurd (hcl 16 ka16 rfl h ⟨15, .data⟩ (by simp [ka16]) rfl) (by rw [hD]; decide)
theorem KJ.s16 {a0 x : Act} {W0 W : World} {D : Nat → Bool} (E : KJ a0 W0 lb loff L cl t db p a1 a2 c1 c2 l1 l2 D x W) (hcl : ClsD kaOps D) (hD : D 16 = false) (hs0 : a0.tmps.size = 207) {v : Value} {nb : Nat} {p7 : Cv} (h0 : x.eval (.tmp 19) = .pointer (some ⟨nb, 0, none⟩)) (h1 : W0.heap.size ≤ nb) (h2 : Cb W nb cv0) (h3 : ∀ i, W.frozen? ⟨nb, i, none⟩ = false) (h4 : p7.cs = (putV p.cs l1 l2).1) (h5 : Cok p7) (h6 : StE W0 p nb p7 W) :
    KJ a0 W0 lb loff L cl t db p a1 a2 c1 c2 l1 l2 (fun k => decide (k = 16) || D k) (x) (dozen W nb p7) := by
  refine { sz := E.sz, df := E.df, ag := fun t h1 h2 h3 => E.ag t h1 h2 h3, lo := dozen_below E.lo h1 p7, v0 := ?v0, v1 := ?v1, v2 := ?v2, v3 := ?v3, v4 := ?v4, v5 := ?v5, v6 := ?v6, v7 := ?v7, v8 := ?v8, v9 := ?v9, v10 := ?v10, p11 := ?p11, p12 := ?p12, p13 := ?p13, p14 := ?p14, p17 := ?p17, a15 := ?a15, b11 := ?b11, jn := ?jn, f16 := ?f16 }
  case v0 =>
    intro h
    simp at h
    exact E.v0 h
  case v1 =>
    intro h
    simp at h
    exact E.v1 h
  case v2 =>
    intro h
    simp at h
    exact E.v2 h
  case v3 =>
    intro h
    simp at h
    exact E.v3 h
  case v4 =>
    intro h
    simp at h
    exact E.v4 h
  case v5 =>
    intro h
    simp at h
    exact E.v5 h
  case v6 =>
    intro h
    simp at h
    exact E.v6 h
  case v7 =>
    intro h
    simp at h
    exact E.v7 h
  case v8 =>
    intro h
    simp at h
    exact E.v8 h
  case v9 =>
    intro h
    simp at h
    exact E.v9 h
  case v10 =>
    intro h
    simp at h
    exact E.v10 h
  case p11 =>
    intro h
    simp at h
    exact E.p11 h
  case p12 =>
    intro h
    simp at h
    exact E.p12 h
  case p13 =>
    intro h
    simp at h
    exact E.p13 h
  case p14 =>
    intro h
    simp at h
    exact E.p14 h
  case p17 =>
    intro h
    simp at h
    exact E.p17 h
  case a15 =>
    intro h h'
    simp at h'
  case b11 =>
    intro h h'
    simp at h'
  case jn =>
    intro h h' h''
    simp at h''
  case f16 =>
    intro _
    exact ⟨nb, p7, h0, h1, h2.set p7, fun i => by rw [dozen_frz]; exact h3 i, h4, h5, h6.set h1 p7⟩
theorem KJ.s17 {a0 x : Act} {W0 W : World} {D : Nat → Bool} (E : KJ a0 W0 lb loff L cl t db p a1 a2 c1 c2 l1 l2 D x W) (hcl : ClsD kaOps D) (hD : D 17 = false) (hs0 : a0.tmps.size = 207) {v : Value} (hv : v = .int .i64 (putV p.cs l1 l2).2) :
    KJ a0 W0 lb loff L cl t db p a1 a2 c1 c2 l1 l2 (fun k => decide (k = 17) || D k) (x.put (some 20) v) W := by
  have hsz : 20 < x.tmps.size := by rw [E.sz, hs0]; decide
  refine { sz := by rw [← E.sz]; simp [Act.put], df := E.df, ag := fun t h1 h2 h3 => (ev_neZ (by omega)).trans (E.ag t h1 h2 h3), lo := E.lo, v0 := ?v0, v1 := ?v1, v2 := ?v2, v3 := ?v3, v4 := ?v4, v5 := ?v5, v6 := ?v6, v7 := ?v7, v8 := ?v8, v9 := ?v9, v10 := ?v10, p11 := ?p11, p12 := ?p12, p13 := ?p13, p14 := ?p14, p17 := ?p17, a15 := ?a15, b11 := ?b11, jn := ?jn, f16 := ?f16 }
  case v0 =>
    intro h
    simp at h
    rw [show (x.put (some 20) v).eval (.tmp 104) = x.eval (.tmp 104) from ev_neZ (by decide)]
    exact E.v0 h
  case v1 =>
    intro h
    simp at h
    rw [show (x.put (some 20) v).eval (.tmp 105) = x.eval (.tmp 105) from ev_neZ (by decide)]
    exact E.v1 h
  case v2 =>
    intro h
    simp at h
    rw [show (x.put (some 20) v).eval (.tmp 106) = x.eval (.tmp 106) from ev_neZ (by decide)]
    exact E.v2 h
  case v3 =>
    intro h
    simp at h
    rw [show (x.put (some 20) v).eval (.tmp 107) = x.eval (.tmp 107) from ev_neZ (by decide)]
    exact E.v3 h
  case v4 =>
    intro h
    simp at h
    rw [show (x.put (some 20) v).eval (.tmp 108) = x.eval (.tmp 108) from ev_neZ (by decide)]
    exact E.v4 h
  case v5 =>
    intro h
    simp at h
    rw [show (x.put (some 20) v).eval (.tmp 109) = x.eval (.tmp 109) from ev_neZ (by decide)]
    exact E.v5 h
  case v6 =>
    intro h
    simp at h
    rw [show (x.put (some 20) v).eval (.tmp 110) = x.eval (.tmp 110) from ev_neZ (by decide)]
    exact E.v6 h
  case v7 =>
    intro h
    simp at h
    rw [show (x.put (some 20) v).eval (.tmp 111) = x.eval (.tmp 111) from ev_neZ (by decide)]
    exact E.v7 h
  case v8 =>
    intro h
    simp at h
    rw [show (x.put (some 20) v).eval (.tmp 112) = x.eval (.tmp 112) from ev_neZ (by decide)]
    exact E.v8 h
  case v9 =>
    intro h
    simp at h
    rw [show (x.put (some 20) v).eval (.tmp 113) = x.eval (.tmp 113) from ev_neZ (by decide)]
    exact E.v9 h
  case v10 =>
    intro h
    simp at h
    rw [show (x.put (some 20) v).eval (.tmp 114) = x.eval (.tmp 114) from ev_neZ (by decide)]
    exact E.v10 h
  case p11 =>
    intro h
    simp at h
    rw [show (x.put (some 20) v).eval (.tmp 115) = x.eval (.tmp 115) from ev_neZ (by decide)]
    exact E.p11 h
  case p12 =>
    intro h
    simp at h
    rw [show (x.put (some 20) v).eval (.tmp 103) = x.eval (.tmp 103) from ev_neZ (by decide)]
    rw [show (x.put (some 20) v).eval (.tmp 115) = x.eval (.tmp 115) from ev_neZ (by decide)]
    exact E.p12 h
  case p13 =>
    intro h
    simp at h
    rw [show (x.put (some 20) v).eval (.tmp 115) = x.eval (.tmp 115) from ev_neZ (by decide)]
    rw [show (x.put (some 20) v).eval (.tmp 116) = x.eval (.tmp 116) from ev_neZ (by decide)]
    exact E.p13 h
  case p14 =>
    intro h
    simp at h
    rw [show (x.put (some 20) v).eval (.tmp 117) = x.eval (.tmp 117) from ev_neZ (by decide)]
    exact E.p14 h
  case p17 =>
    intro _
    rw [ev_sameZ hsz]; exact hv
  case a15 =>
    intro h h'
    simp at h
    simp at h'
    rw [show (x.put (some 20) v).eval (.tmp 19) = x.eval (.tmp 19) from ev_neZ (by decide)]
    exact E.a15 h h'
  case b11 =>
    intro h h'
    simp at h
    simp at h'
    rw [show (x.put (some 20) v).eval (.tmp 115) = x.eval (.tmp 115) from ev_neZ (by decide)]
    exact E.b11 h h'
  case jn =>
    intro h h' h''
    simp at h
    simp at h'
    simp at h''
    rw [show (x.put (some 20) v).eval (.tmp 19) = x.eval (.tmp 19) from ev_neZ (by decide)]
    rw [show (x.put (some 20) v).eval (.tmp 115) = x.eval (.tmp 115) from ev_neZ (by decide)]
    exact E.jn h h' h''
  case f16 =>
    intro h
    simp at h
    rw [show (x.put (some 20) v).eval (.tmp 19) = x.eval (.tmp 19) from ev_neZ (by decide)]
    exact E.f16 h
end
theorem ka_dep : ∀ i o, kaOps[i]? = some o → o.guard = none ∧ ∀ e ∈ o.after, Region.binds .any e = true → e.on < i := by
  intro i o ho
  have hi : i < 18 := (Array.getElem?_eq_some_iff.1 ho).1
  rcases (by omega : i = 0 ∨ i = 1 ∨ i = 2 ∨ i = 3 ∨ i = 4 ∨ i = 5 ∨ i = 6 ∨ i = 7 ∨ i = 8 ∨ i = 9 ∨ i = 10 ∨ i = 11 ∨ i = 12 ∨ i = 13 ∨ i = 14 ∨ i = 15 ∨ i = 16 ∨ i = 17) with rfl | rfl | rfl | rfl | rfl | rfl | rfl | rfl | rfl | rfl | rfl | rfl | rfl | rfl | rfl | rfl | rfl | rfl <;> (cases ho; refine ⟨rfl, fun e he _ => ?_⟩; revert e; decide)
set_option maxRecDepth 100000 in
set_option maxHeartbeats 8000000 in
theorem ka_core {Q : Exit → Act → World → Prop} (W : World) (lb loff L cl t db : Nat) (p : Cv) (a1 a2 : Option Addr) (c1 c2 : Nat) (l1 l2 : List Int) (a0 : Act) (hs0 : a0.tmps.size = 207) (eY4 : a0.eval (.tmp 4) = .slice (some ⟨lb, loff, none⟩) L cl) (eY13 : a0.eval (.tmp 13) = .pointer (some ⟨db, 0, none⟩)) (eY15 : a0.eval (.tmp 15) = .int .i64 (t : Int))
    (hI : t < L) (hcb : Cb W db p) (q1 : W.cell? ⟨lb, loff + t * 3 + 1, none⟩ = some (.slice a1 l1.length c1)) (q2 : W.cell? ⟨lb, loff + t * 3 + 2, none⟩ = some (.slice a2 l2.length c2))
    (hp : ∀ X, Below W.heap.size W X → Calls Try.prog 16 #[cvV p, .slice a1 l1.length c1, .slice a2 l2.length c2] X (PkPost X p (putV p.cs l1 l2)))
    (fin : ∀ a X, KJ a0 W lb loff L cl t db p a1 a2 c1 c2 l1 l2 (fun k => decide (k < 18)) a X → Q .normal a X) :
    (Code.region 21 kaOps true).wp Try.prog Q a0 W := by
  refine wp_region_inv (by kernel_rfl) a0 W 18 rfl (KJ a0 W lb loff L cl t db p a1 a2 c1 c2 l1 l2) ka_dep ?_ ?_ ?_
  · exact { sz := rfl, df := rfl, ag := fun _ _ _ _ => rfl, lo := Below.drew (Below.refl _ _), v0 := (fun h => by cases h), v1 := (fun h => by cases h), v2 := (fun h => by cases h), v3 := (fun h => by cases h), v4 := (fun h => by cases h), v5 := (fun h => by cases h), v6 := (fun h => by cases h), v7 := (fun h => by cases h), v8 := (fun h => by cases h), v9 := (fun h => by cases h), v10 := (fun h => by cases h), p11 := (fun h => by cases h), p12 := (fun h => by cases h), p13 := (fun h => by cases h), p14 := (fun h => by cases h), p17 := (fun h => by cases h), a15 := (fun h => by cases h), b11 := (fun h => by cases h), jn := (fun h => by cases h), f16 := (fun h => by cases h) }
  · intro j o ho D x X hcl hD haft E
    have hj : j < 18 := (Array.getElem?_eq_some_iff.1 ho).1
    have r := Below.refl X.heap.size X
    have bl := E.lo
    have fY4 : x.eval (.tmp 4) = .slice (some ⟨lb, loff, none⟩) L cl := (E.ag 4 (by omega) (by omega) (by omega)).trans eY4
    have fY13 : x.eval (.tmp 13) = .pointer (some ⟨db, 0, none⟩) := (E.ag 13 (by omega) (by omega) (by omega)).trans eY13
    have fY15 : x.eval (.tmp 15) = .int .i64 (t : Int) := (E.ag 15 (by omega) (by omega) (by omega)).trans eY15
    clear fin
    rcases (by omega : j = 0 ∨ j = 1 ∨ j = 2 ∨ j = 3 ∨ j = 4 ∨ j = 5 ∨ j = 6 ∨ j = 7 ∨ j = 8 ∨ j = 9 ∨ j = 10 ∨ j = 11 ∨ j = 12 ∨ j = 13 ∨ j = 14 ∨ j = 15 ∨ j = 16 ∨ j = 17) with rfl | rfl | rfl | rfl | rfl | rfl | rfl | rfl | rfl | rfl | rfl | rfl | rfl | rfl | rfl | rfl | rfl | rfl
    · obtain rfl : ka0 = o := Option.some.inj ho
      exact wp_valueZ (v := cvV p) (w' := X) (by simp [execOp, ka0, fY13, ldC (hcb.below bl)]) (E.s0 hcl hD hs0 rfl)
    · obtain rfl : ka1 = o := Option.some.inj ho
      exact wp_valueZ (v := .slice (some ⟨lb, loff, none⟩) L cl) (w' := X) (by simp [execOp, ka1, fY4]) (E.s1 hcl hD hs0 rfl)
    · obtain rfl : ka2 = o := Option.some.inj ho
      exact wp_valueZ (v := .int .i64 (t : Int)) (w' := X) (by simp [execOp, ka2, fY15]) (E.s2 hcl hD hs0 rfl)
    · obtain rfl : ka3 = o := Option.some.inj ho
      have d1 := E.v1 (haft ⟨1, .data⟩ (by simp [ka3]) rfl)
      have d2 := E.v2 (haft ⟨2, .data⟩ (by simp [ka3]) rfl)
      exact wp_valueZ (v := .pointer (some ⟨lb, loff + t * 3, none⟩)) (w' := X) (by simp [execOp, ka3, d1, d2, idxC hI]) (E.s3 hcl hD hs0 rfl)
    · obtain rfl : ka4 = o := Option.some.inj ho
      have d3 := E.v3 (haft ⟨3, .data⟩ (by simp [ka4]) rfl)
      exact wp_valueZ (v := .pointer (some ⟨lb, loff + t * 3 + 1, none⟩)) (w' := X) (by simp [execOp, ka4, d3, fldC1]) (E.s4 hcl hD hs0 rfl)
    · obtain rfl : ka5 = o := Option.some.inj ho
      have d4 := E.v4 (haft ⟨4, .data⟩ (by simp [ka5]) rfl)
      have q := (bl.cell (World.block_lt_of_cell? W _ q1)).trans q1
      exact wp_valueZ (v := .slice a1 l1.length c1) (w' := X) (by simp [execOp, ka5, d4, ldS q]) (E.s5 hcl hD hs0 rfl)
    · obtain rfl : ka6 = o := Option.some.inj ho
      exact wp_valueZ (v := .slice (some ⟨lb, loff, none⟩) L cl) (w' := X) (by simp [execOp, ka6, fY4]) (E.s6 hcl hD hs0 rfl)
    · obtain rfl : ka7 = o := Option.some.inj ho
      exact wp_valueZ (v := .int .i64 (t : Int)) (w' := X) (by simp [execOp, ka7, fY15]) (E.s7 hcl hD hs0 rfl)
    · obtain rfl : ka8 = o := Option.some.inj ho
      have d6 := E.v6 (haft ⟨6, .data⟩ (by simp [ka8]) rfl)
      have d7 := E.v7 (haft ⟨7, .data⟩ (by simp [ka8]) rfl)
      exact wp_valueZ (v := .pointer (some ⟨lb, loff + t * 3, none⟩)) (w' := X) (by simp [execOp, ka8, d6, d7, idxC hI]) (E.s8 hcl hD hs0 rfl)
    · obtain rfl : ka9 = o := Option.some.inj ho
      have d8 := E.v8 (haft ⟨8, .data⟩ (by simp [ka9]) rfl)
      exact wp_valueZ (v := .pointer (some ⟨lb, loff + t * 3 + 2, none⟩)) (w' := X) (by simp [execOp, ka9, d8, fldC2]) (E.s9 hcl hD hs0 rfl)
    · obtain rfl : ka10 = o := Option.some.inj ho
      have d9 := E.v9 (haft ⟨9, .data⟩ (by simp [ka10]) rfl)
      have q := (bl.cell (World.block_lt_of_cell? W _ q2)).trans q2
      exact wp_valueZ (v := .slice a2 l2.length c2) (w' := X) (by simp [execOp, ka10, d9, ldS q]) (E.s10 hcl hD hs0 rfl)
    · obtain rfl : ka11 = o := Option.some.inj ho
      have d0 := E.v0 (haft ⟨0, .data⟩ (by simp [ka11]) rfl)
      have d5 := E.v5 (haft ⟨5, .data⟩ (by simp [ka11]) rfl)
      have d10 := E.v10 (haft ⟨10, .data⟩ (by simp [ka11]) rfl)
      refine wp_enterZ (run_call3Z rfl (enters_of Try.func16 (by kernel_rfl) rfl) d0 d5 d10) (hp X bl) ?_
      rintro e X' ⟨p7, rfl, h1, -, h2, hb, h3⟩
      refine ⟨_, rfl, (E.grow hb).s11 hcl hD hs0 rfl h1 h2 (fun Y hY hY2 wz hz => h3 Y (fun j hj => Nat.lt_of_lt_of_le (hY j hj) bl.size) (fun wy hy => hY2 wy (bx_up bl.size bl hy)) wz hz) fun nb e k1 k2 => ?_⟩
      obtain ⟨nb2, e2, m1, m2, -⟩ := E.a15 k1 k2
      have en : nb2 = nb := by rw [e] at e2; injection e2 with e2; injection e2 with e2; injection e2 with e2; exact e2.symm
      subst en
      have hlt := World.block_lt_of_cell? X _ m2.p0
      exact fun Y hY hY2 wz hz => h3 Y (fun j hj => by rcases hY j hj with z | z; exact Nat.lt_of_lt_of_le z bl.size; rw [z]; exact hlt) (fun wy hy => hY2 wy (bx_up bl.size bl hy)) wz hz
    · obtain rfl : ka12 = o := Option.some.inj ho
      obtain ⟨p7, d⟩ := E.p11 (haft ⟨11, .data⟩ (by simp [ka12]) rfl)
      exact wp_valueZ (w' := X) (by simp [execOp, ka12]) (E.s12 hcl hD hs0 rfl)
    · obtain rfl : ka13 = o := Option.some.inj ho
      have d1 := E.p12 (haft ⟨12, .data⟩ (by simp [ka13]) rfl)
      obtain ⟨p7, d⟩ := E.p11 (hcl 12 ka12 rfl (haft ⟨12, .data⟩ (by simp [ka13]) rfl) ⟨11, .data⟩ (by simp [ka12]) rfl)
      rw [d] at d1
      exact wp_valueZ (v := cvV p7) (w' := X) (by simp [execOp, ka13, d1]; go_simp) (E.s13 hcl hD hs0 d rfl)
    · obtain rfl : ka14 = o := Option.some.inj ho
      have d1 := E.p12 (haft ⟨12, .data⟩ (by simp [ka14]) rfl)
      obtain ⟨p7, d⟩ := E.p11 (hcl 12 ka12 rfl (haft ⟨12, .data⟩ (by simp [ka14]) rfl) ⟨11, .data⟩ (by simp [ka12]) rfl)
      rw [d] at d1
      exact wp_valueZ (v := .int .i64 (putV p.cs l1 l2).2) (w' := X) (by simp [execOp, ka14, d1]; go_simp) (E.s14 hcl hD hs0 rfl)
    · obtain rfl : ka15 = o := Option.some.inj ho
      exact wp_valueZ (v := .pointer (some ⟨X.heap.size, 0, none⟩)) (w' := X.alloc zero12) (by simp [execOp, ka15, alloc12]) (E.s15 hcl hD hs0 rfl)
    · obtain rfl : ka16 = o := Option.some.inj ho
      obtain ⟨p7, d, d1⟩ := E.p13 (haft ⟨13, .data⟩ (by simp [ka16]) rfl)
      obtain ⟨nb, d2, h1, h2, h3⟩ := E.a15 (haft ⟨15, .data⟩ (by simp [ka16]) rfl) hD
      obtain ⟨nb2, p8, e2, ee8, m1, m2, m3⟩ := E.jn (haft ⟨11, .chain⟩ (by simp [ka16]) rfl) (haft ⟨15, .data⟩ (by simp [ka16]) rfl) hD
      have en : nb2 = nb := by rw [d2] at e2; injection e2 with e2; injection e2 with e2; injection e2 with e2; exact e2.symm
      subst en
      rw [d] at ee8
      have ee9 : cvV p7 = cvV p8 := by injection ee8 with ee8; injection ee8 with ee8; injection ee8 with ee8 _
      rw [ee9] at d1
      have hrun := st12 h2 h3 p8
      have hpost := E.s16 (v := undef) hcl hD hs0 d2 h1 h2 h3 m1 m2 m3
      unfold Oper.wp
      have e : (execOp x.eval ka16).run Try.prog X = .ok .skip (dozen X nb2 p8) := by
        simp [execOp, ka16, d1, d2, hrun]
      rw [e]
      exact hpost
    · obtain rfl : ka17 = o := Option.some.inj ho
      have d := E.p14 (haft ⟨14, .data⟩ (by simp [ka17]) rfl)
      exact wp_valueZ (v := .int .i64 (putV p.cs l1 l2).2) (w' := X) (by simp [execOp, ka17, d]) (E.s17 hcl hD hs0 rfl)
  · intro D a X hall E
    exact fin a X { sz := E.sz, df := E.df, ag := E.ag, lo := E.lo, v0 := (fun _ => E.v0 (hall 0 (by decide))), v1 := (fun _ => E.v1 (hall 1 (by decide))), v2 := (fun _ => E.v2 (hall 2 (by decide))), v3 := (fun _ => E.v3 (hall 3 (by decide))), v4 := (fun _ => E.v4 (hall 4 (by decide))), v5 := (fun _ => E.v5 (hall 5 (by decide))), v6 := (fun _ => E.v6 (hall 6 (by decide))), v7 := (fun _ => E.v7 (hall 7 (by decide))), v8 := (fun _ => E.v8 (hall 8 (by decide))), v9 := (fun _ => E.v9 (hall 9 (by decide))), v10 := (fun _ => E.v10 (hall 10 (by decide))), p11 := (fun _ => E.p11 (hall 11 (by decide))), p12 := (fun _ => E.p12 (hall 12 (by decide))), p13 := (fun _ => E.p13 (hall 13 (by decide))), p14 := (fun _ => E.p14 (hall 14 (by decide))), p17 := (fun _ => E.p17 (hall 17 (by decide))), a15 := (fun h h' => by cases h'), b11 := (fun h h' => by cases h'), jn := (fun h h' h'' => by cases h''), f16 := (fun _ => E.f16 (hall 16 (by decide))) }
set_option maxRecDepth 100000 in
set_option maxHeartbeats 8000000 in
theorem ka_region {Q : Exit → Act → World → Prop} (W : World) (lb loff L cl t db : Nat) (p : Cv) (a1 a2 : Option Addr) (c1 c2 : Nat) (l1 l2 : List Int) (ds : List Deferred) (t0 t1 t2 t3 t5 t6 t7 t8 t9 t10 t11 t12 t14 t16 t17 t18 t19 t20 t21 t22 t23 t24 t25 t26 t27 t28 t29 t30 t31 t32 t33 t34 t35 t36 t37 t38 t39 t40 t41 t42 t43 t44 t45 t46 t47 t48 t49 t50 t51 t52 t53 t54 t55 t56 t57 t58 t59 t60 t61 t62 t63 t64 t65 t66 t67 t68 t69 t70 t71 t72 t73 t74 t75 t76 t77 t78 t79 t80 t81 t82 t83 t84 t85 t86 t87 t88 t89 t90 t91 t92 t93 t94 t95 t96 t97 t98 t99 t100 t101 t102 t103 t104 t105 t106 t107 t108 t109 t110 t111 t112 t113 t114 t115 t116 t117 t118 t119 t120 t121 t122 t123 t124 t125 t126 t127 t128 t129 t130 t131 t132 t133 t134 t135 t136 t137 t138 t139 t140 t141 t142 t143 t144 t145 t146 t147 t148 t149 t150 t151 t152 t153 t154 t155 t156 t157 t158 t159 t160 t161 t162 t163 t164 t165 t166 t167 t168 t169 t170 t171 t172 t173 t174 t175 t176 t177 t178 t179 t180 t181 t182 t183 t184 t185 t186 t187 t188 t189 t190 t191 t192 t193 t194 t195 t196 t197 t198 t199 t200 t201 t202 t203 t204 t205 t206 : Value)
    (hI : t < L) (hcb : Cb W db p) (q1 : W.cell? ⟨lb, loff + t * 3 + 1, none⟩ = some (.slice a1 l1.length c1)) (q2 : W.cell? ⟨lb, loff + t * 3 + 2, none⟩ = some (.slice a2 l2.length c2)) (hp : ∀ X, Below W.heap.size W X → Calls Try.prog 16 #[cvV p, .slice a1 l1.length c1, .slice a2 l2.length c2] X (PkPost X p (putV p.cs l1 l2)))
    (fin : ∀ X (u103 u104 u105 u106 u107 u108 u109 u110 u111 u112 u113 u114 u115 u116 u117 : Value) nb p7, Below W.heap.size W X → W.heap.size ≤ nb → Cb X nb p7 → (∀ i, X.frozen? ⟨nb, i, none⟩ = false) → p7.cs = (putV p.cs l1 l2).1 → Cok p7 → StE W p nb p7 X → Q .normal ⟨#[t0, t1, t2, t3, .slice (some ⟨lb, loff, none⟩) L cl, t5, t6, t7, t8, t9, t10, t11, t12, .pointer (some ⟨db, 0, none⟩), t14, .int .i64 (t : Int), t16, t17, t18, .pointer (some ⟨nb, 0, none⟩), .int .i64 (putV p.cs l1 l2).2, t21, t22, t23, t24, t25, t26, t27, t28, t29, t30, t31, t32, t33, t34, t35, t36, t37, t38, t39, t40, t41, t42, t43, t44, t45, t46, t47, t48, t49, t50, t51, t52, t53, t54, t55, t56, t57, t58, t59, t60, t61, t62, t63, t64, t65, t66, t67, t68, t69, t70, t71, t72, t73, t74, t75, t76, t77, t78, t79, t80, t81, t82, t83, t84, t85, t86, t87, t88, t89, t90, t91, t92, t93, t94, t95, t96, t97, t98, t99, t100, t101, t102, u103, u104, u105, u106, u107, u108, u109, u110, u111, u112, u113, u114, u115, u116, u117, t118, t119, t120, t121, t122, t123, t124, t125, t126, t127, t128, t129, t130, t131, t132, t133, t134, t135, t136, t137, t138, t139, t140, t141, t142, t143, t144, t145, t146, t147, t148, t149, t150, t151, t152, t153, t154, t155, t156, t157, t158, t159, t160, t161, t162, t163, t164, t165, t166, t167, t168, t169, t170, t171, t172, t173, t174, t175, t176, t177, t178, t179, t180, t181, t182, t183, t184, t185, t186, t187, t188, t189, t190, t191, t192, t193, t194, t195, t196, t197, t198, t199, t200, t201, t202, t203, t204, t205, t206], ds⟩ X) :
    (Code.region 21 kaOps true).wp Try.prog Q ⟨#[t0, t1, t2, t3, .slice (some ⟨lb, loff, none⟩) L cl, t5, t6, t7, t8, t9, t10, t11, t12, .pointer (some ⟨db, 0, none⟩), t14, .int .i64 (t : Int), t16, t17, t18, t19, t20, t21, t22, t23, t24, t25, t26, t27, t28, t29, t30, t31, t32, t33, t34, t35, t36, t37, t38, t39, t40, t41, t42, t43, t44, t45, t46, t47, t48, t49, t50, t51, t52, t53, t54, t55, t56, t57, t58, t59, t60, t61, t62, t63, t64, t65, t66, t67, t68, t69, t70, t71, t72, t73, t74, t75, t76, t77, t78, t79, t80, t81, t82, t83, t84, t85, t86, t87, t88, t89, t90, t91, t92, t93, t94, t95, t96, t97, t98, t99, t100, t101, t102, t103, t104, t105, t106, t107, t108, t109, t110, t111, t112, t113, t114, t115, t116, t117, t118, t119, t120, t121, t122, t123, t124, t125, t126, t127, t128, t129, t130, t131, t132, t133, t134, t135, t136, t137, t138, t139, t140, t141, t142, t143, t144, t145, t146, t147, t148, t149, t150, t151, t152, t153, t154, t155, t156, t157, t158, t159, t160, t161, t162, t163, t164, t165, t166, t167, t168, t169, t170, t171, t172, t173, t174, t175, t176, t177, t178, t179, t180, t181, t182, t183, t184, t185, t186, t187, t188, t189, t190, t191, t192, t193, t194, t195, t196, t197, t198, t199, t200, t201, t202, t203, t204, t205, t206], ds⟩ W := by
  obtain ⟨a0, ha0⟩ : ∃ a0 : Act, a0 = ⟨#[t0, t1, t2, t3, .slice (some ⟨lb, loff, none⟩) L cl, t5, t6, t7, t8, t9, t10, t11, t12, .pointer (some ⟨db, 0, none⟩), t14, .int .i64 (t : Int), t16, t17, t18, t19, t20, t21, t22, t23, t24, t25, t26, t27, t28, t29, t30, t31, t32, t33, t34, t35, t36, t37, t38, t39, t40, t41, t42, t43, t44, t45, t46, t47, t48, t49, t50, t51, t52, t53, t54, t55, t56, t57, t58, t59, t60, t61, t62, t63, t64, t65, t66, t67, t68, t69, t70, t71, t72, t73, t74, t75, t76, t77, t78, t79, t80, t81, t82, t83, t84, t85, t86, t87, t88, t89, t90, t91, t92, t93, t94, t95, t96, t97, t98, t99, t100, t101, t102, t103, t104, t105, t106, t107, t108, t109, t110, t111, t112, t113, t114, t115, t116, t117, t118, t119, t120, t121, t122, t123, t124, t125, t126, t127, t128, t129, t130, t131, t132, t133, t134, t135, t136, t137, t138, t139, t140, t141, t142, t143, t144, t145, t146, t147, t148, t149, t150, t151, t152, t153, t154, t155, t156, t157, t158, t159, t160, t161, t162, t163, t164, t165, t166, t167, t168, t169, t170, t171, t172, t173, t174, t175, t176, t177, t178, t179, t180, t181, t182, t183, t184, t185, t186, t187, t188, t189, t190, t191, t192, t193, t194, t195, t196, t197, t198, t199, t200, t201, t202, t203, t204, t205, t206], ds⟩ := ⟨_, rfl⟩
  have hs0 : a0.tmps.size = 207 := by rw [ha0]; rfl
  have hd0 : a0.defers = ds := by rw [ha0]
  have gY0 : a0.eval (.tmp 0) = t0 := by rw [ha0]; rfl
  have gY1 : a0.eval (.tmp 1) = t1 := by rw [ha0]; rfl
  have gY2 : a0.eval (.tmp 2) = t2 := by rw [ha0]; rfl
  have gY3 : a0.eval (.tmp 3) = t3 := by rw [ha0]; rfl
  have gY4 : a0.eval (.tmp 4) = .slice (some ⟨lb, loff, none⟩) L cl := by rw [ha0]; rfl
  have gY5 : a0.eval (.tmp 5) = t5 := by rw [ha0]; rfl
  have gY6 : a0.eval (.tmp 6) = t6 := by rw [ha0]; rfl
  have gY7 : a0.eval (.tmp 7) = t7 := by rw [ha0]; rfl
  have gY8 : a0.eval (.tmp 8) = t8 := by rw [ha0]; rfl
  have gY9 : a0.eval (.tmp 9) = t9 := by rw [ha0]; rfl
  have gY10 : a0.eval (.tmp 10) = t10 := by rw [ha0]; rfl
  have gY11 : a0.eval (.tmp 11) = t11 := by rw [ha0]; rfl
  have gY12 : a0.eval (.tmp 12) = t12 := by rw [ha0]; rfl
  have gY13 : a0.eval (.tmp 13) = .pointer (some ⟨db, 0, none⟩) := by rw [ha0]; rfl
  have gY14 : a0.eval (.tmp 14) = t14 := by rw [ha0]; rfl
  have gY15 : a0.eval (.tmp 15) = .int .i64 (t : Int) := by rw [ha0]; rfl
  have gY16 : a0.eval (.tmp 16) = t16 := by rw [ha0]; rfl
  have gY17 : a0.eval (.tmp 17) = t17 := by rw [ha0]; rfl
  have gY18 : a0.eval (.tmp 18) = t18 := by rw [ha0]; rfl
  have gY21 : a0.eval (.tmp 21) = t21 := by rw [ha0]; rfl
  have gY22 : a0.eval (.tmp 22) = t22 := by rw [ha0]; rfl
  have gY23 : a0.eval (.tmp 23) = t23 := by rw [ha0]; rfl
  have gY24 : a0.eval (.tmp 24) = t24 := by rw [ha0]; rfl
  have gY25 : a0.eval (.tmp 25) = t25 := by rw [ha0]; rfl
  have gY26 : a0.eval (.tmp 26) = t26 := by rw [ha0]; rfl
  have gY27 : a0.eval (.tmp 27) = t27 := by rw [ha0]; rfl
  have gY28 : a0.eval (.tmp 28) = t28 := by rw [ha0]; rfl
  have gY29 : a0.eval (.tmp 29) = t29 := by rw [ha0]; rfl
  have gY30 : a0.eval (.tmp 30) = t30 := by rw [ha0]; rfl
  have gY31 : a0.eval (.tmp 31) = t31 := by rw [ha0]; rfl
  have gY32 : a0.eval (.tmp 32) = t32 := by rw [ha0]; rfl
  have gY33 : a0.eval (.tmp 33) = t33 := by rw [ha0]; rfl
  have gY34 : a0.eval (.tmp 34) = t34 := by rw [ha0]; rfl
  have gY35 : a0.eval (.tmp 35) = t35 := by rw [ha0]; rfl
  have gY36 : a0.eval (.tmp 36) = t36 := by rw [ha0]; rfl
  have gY37 : a0.eval (.tmp 37) = t37 := by rw [ha0]; rfl
  have gY38 : a0.eval (.tmp 38) = t38 := by rw [ha0]; rfl
  have gY39 : a0.eval (.tmp 39) = t39 := by rw [ha0]; rfl
  have gY40 : a0.eval (.tmp 40) = t40 := by rw [ha0]; rfl
  have gY41 : a0.eval (.tmp 41) = t41 := by rw [ha0]; rfl
  have gY42 : a0.eval (.tmp 42) = t42 := by rw [ha0]; rfl
  have gY43 : a0.eval (.tmp 43) = t43 := by rw [ha0]; rfl
  have gY44 : a0.eval (.tmp 44) = t44 := by rw [ha0]; rfl
  have gY45 : a0.eval (.tmp 45) = t45 := by rw [ha0]; rfl
  have gY46 : a0.eval (.tmp 46) = t46 := by rw [ha0]; rfl
  have gY47 : a0.eval (.tmp 47) = t47 := by rw [ha0]; rfl
  have gY48 : a0.eval (.tmp 48) = t48 := by rw [ha0]; rfl
  have gY49 : a0.eval (.tmp 49) = t49 := by rw [ha0]; rfl
  have gY50 : a0.eval (.tmp 50) = t50 := by rw [ha0]; rfl
  have gY51 : a0.eval (.tmp 51) = t51 := by rw [ha0]; rfl
  have gY52 : a0.eval (.tmp 52) = t52 := by rw [ha0]; rfl
  have gY53 : a0.eval (.tmp 53) = t53 := by rw [ha0]; rfl
  have gY54 : a0.eval (.tmp 54) = t54 := by rw [ha0]; rfl
  have gY55 : a0.eval (.tmp 55) = t55 := by rw [ha0]; rfl
  have gY56 : a0.eval (.tmp 56) = t56 := by rw [ha0]; rfl
  have gY57 : a0.eval (.tmp 57) = t57 := by rw [ha0]; rfl
  have gY58 : a0.eval (.tmp 58) = t58 := by rw [ha0]; rfl
  have gY59 : a0.eval (.tmp 59) = t59 := by rw [ha0]; rfl
  have gY60 : a0.eval (.tmp 60) = t60 := by rw [ha0]; rfl
  have gY61 : a0.eval (.tmp 61) = t61 := by rw [ha0]; rfl
  have gY62 : a0.eval (.tmp 62) = t62 := by rw [ha0]; rfl
  have gY63 : a0.eval (.tmp 63) = t63 := by rw [ha0]; rfl
  have gY64 : a0.eval (.tmp 64) = t64 := by rw [ha0]; rfl
  have gY65 : a0.eval (.tmp 65) = t65 := by rw [ha0]; rfl
  have gY66 : a0.eval (.tmp 66) = t66 := by rw [ha0]; rfl
  have gY67 : a0.eval (.tmp 67) = t67 := by rw [ha0]; rfl
  have gY68 : a0.eval (.tmp 68) = t68 := by rw [ha0]; rfl
  have gY69 : a0.eval (.tmp 69) = t69 := by rw [ha0]; rfl
  have gY70 : a0.eval (.tmp 70) = t70 := by rw [ha0]; rfl
  have gY71 : a0.eval (.tmp 71) = t71 := by rw [ha0]; rfl
  have gY72 : a0.eval (.tmp 72) = t72 := by rw [ha0]; rfl
  have gY73 : a0.eval (.tmp 73) = t73 := by rw [ha0]; rfl
  have gY74 : a0.eval (.tmp 74) = t74 := by rw [ha0]; rfl
  have gY75 : a0.eval (.tmp 75) = t75 := by rw [ha0]; rfl
  have gY76 : a0.eval (.tmp 76) = t76 := by rw [ha0]; rfl
  have gY77 : a0.eval (.tmp 77) = t77 := by rw [ha0]; rfl
  have gY78 : a0.eval (.tmp 78) = t78 := by rw [ha0]; rfl
  have gY79 : a0.eval (.tmp 79) = t79 := by rw [ha0]; rfl
  have gY80 : a0.eval (.tmp 80) = t80 := by rw [ha0]; rfl
  have gY81 : a0.eval (.tmp 81) = t81 := by rw [ha0]; rfl
  have gY82 : a0.eval (.tmp 82) = t82 := by rw [ha0]; rfl
  have gY83 : a0.eval (.tmp 83) = t83 := by rw [ha0]; rfl
  have gY84 : a0.eval (.tmp 84) = t84 := by rw [ha0]; rfl
  have gY85 : a0.eval (.tmp 85) = t85 := by rw [ha0]; rfl
  have gY86 : a0.eval (.tmp 86) = t86 := by rw [ha0]; rfl
  have gY87 : a0.eval (.tmp 87) = t87 := by rw [ha0]; rfl
  have gY88 : a0.eval (.tmp 88) = t88 := by rw [ha0]; rfl
  have gY89 : a0.eval (.tmp 89) = t89 := by rw [ha0]; rfl
  have gY90 : a0.eval (.tmp 90) = t90 := by rw [ha0]; rfl
  have gY91 : a0.eval (.tmp 91) = t91 := by rw [ha0]; rfl
  have gY92 : a0.eval (.tmp 92) = t92 := by rw [ha0]; rfl
  have gY93 : a0.eval (.tmp 93) = t93 := by rw [ha0]; rfl
  have gY94 : a0.eval (.tmp 94) = t94 := by rw [ha0]; rfl
  have gY95 : a0.eval (.tmp 95) = t95 := by rw [ha0]; rfl
  have gY96 : a0.eval (.tmp 96) = t96 := by rw [ha0]; rfl
  have gY97 : a0.eval (.tmp 97) = t97 := by rw [ha0]; rfl
  have gY98 : a0.eval (.tmp 98) = t98 := by rw [ha0]; rfl
  have gY99 : a0.eval (.tmp 99) = t99 := by rw [ha0]; rfl
  have gY100 : a0.eval (.tmp 100) = t100 := by rw [ha0]; rfl
  have gY101 : a0.eval (.tmp 101) = t101 := by rw [ha0]; rfl
  have gY102 : a0.eval (.tmp 102) = t102 := by rw [ha0]; rfl
  have gY118 : a0.eval (.tmp 118) = t118 := by rw [ha0]; rfl
  have gY119 : a0.eval (.tmp 119) = t119 := by rw [ha0]; rfl
  have gY120 : a0.eval (.tmp 120) = t120 := by rw [ha0]; rfl
  have gY121 : a0.eval (.tmp 121) = t121 := by rw [ha0]; rfl
  have gY122 : a0.eval (.tmp 122) = t122 := by rw [ha0]; rfl
  have gY123 : a0.eval (.tmp 123) = t123 := by rw [ha0]; rfl
  have gY124 : a0.eval (.tmp 124) = t124 := by rw [ha0]; rfl
  have gY125 : a0.eval (.tmp 125) = t125 := by rw [ha0]; rfl
  have gY126 : a0.eval (.tmp 126) = t126 := by rw [ha0]; rfl
  have gY127 : a0.eval (.tmp 127) = t127 := by rw [ha0]; rfl
  have gY128 : a0.eval (.tmp 128) = t128 := by rw [ha0]; rfl
  have gY129 : a0.eval (.tmp 129) = t129 := by rw [ha0]; rfl
  have gY130 : a0.eval (.tmp 130) = t130 := by rw [ha0]; rfl
  have gY131 : a0.eval (.tmp 131) = t131 := by rw [ha0]; rfl
  have gY132 : a0.eval (.tmp 132) = t132 := by rw [ha0]; rfl
  have gY133 : a0.eval (.tmp 133) = t133 := by rw [ha0]; rfl
  have gY134 : a0.eval (.tmp 134) = t134 := by rw [ha0]; rfl
  have gY135 : a0.eval (.tmp 135) = t135 := by rw [ha0]; rfl
  have gY136 : a0.eval (.tmp 136) = t136 := by rw [ha0]; rfl
  have gY137 : a0.eval (.tmp 137) = t137 := by rw [ha0]; rfl
  have gY138 : a0.eval (.tmp 138) = t138 := by rw [ha0]; rfl
  have gY139 : a0.eval (.tmp 139) = t139 := by rw [ha0]; rfl
  have gY140 : a0.eval (.tmp 140) = t140 := by rw [ha0]; rfl
  have gY141 : a0.eval (.tmp 141) = t141 := by rw [ha0]; rfl
  have gY142 : a0.eval (.tmp 142) = t142 := by rw [ha0]; rfl
  have gY143 : a0.eval (.tmp 143) = t143 := by rw [ha0]; rfl
  have gY144 : a0.eval (.tmp 144) = t144 := by rw [ha0]; rfl
  have gY145 : a0.eval (.tmp 145) = t145 := by rw [ha0]; rfl
  have gY146 : a0.eval (.tmp 146) = t146 := by rw [ha0]; rfl
  have gY147 : a0.eval (.tmp 147) = t147 := by rw [ha0]; rfl
  have gY148 : a0.eval (.tmp 148) = t148 := by rw [ha0]; rfl
  have gY149 : a0.eval (.tmp 149) = t149 := by rw [ha0]; rfl
  have gY150 : a0.eval (.tmp 150) = t150 := by rw [ha0]; rfl
  have gY151 : a0.eval (.tmp 151) = t151 := by rw [ha0]; rfl
  have gY152 : a0.eval (.tmp 152) = t152 := by rw [ha0]; rfl
  have gY153 : a0.eval (.tmp 153) = t153 := by rw [ha0]; rfl
  have gY154 : a0.eval (.tmp 154) = t154 := by rw [ha0]; rfl
  have gY155 : a0.eval (.tmp 155) = t155 := by rw [ha0]; rfl
  have gY156 : a0.eval (.tmp 156) = t156 := by rw [ha0]; rfl
  have gY157 : a0.eval (.tmp 157) = t157 := by rw [ha0]; rfl
  have gY158 : a0.eval (.tmp 158) = t158 := by rw [ha0]; rfl
  have gY159 : a0.eval (.tmp 159) = t159 := by rw [ha0]; rfl
  have gY160 : a0.eval (.tmp 160) = t160 := by rw [ha0]; rfl
  have gY161 : a0.eval (.tmp 161) = t161 := by rw [ha0]; rfl
  have gY162 : a0.eval (.tmp 162) = t162 := by rw [ha0]; rfl
  have gY163 : a0.eval (.tmp 163) = t163 := by rw [ha0]; rfl
  have gY164 : a0.eval (.tmp 164) = t164 := by rw [ha0]; rfl
  have gY165 : a0.eval (.tmp 165) = t165 := by rw [ha0]; rfl
  have gY166 : a0.eval (.tmp 166) = t166 := by rw [ha0]; rfl
  have gY167 : a0.eval (.tmp 167) = t167 := by rw [ha0]; rfl
  have gY168 : a0.eval (.tmp 168) = t168 := by rw [ha0]; rfl
  have gY169 : a0.eval (.tmp 169) = t169 := by rw [ha0]; rfl
  have gY170 : a0.eval (.tmp 170) = t170 := by rw [ha0]; rfl
  have gY171 : a0.eval (.tmp 171) = t171 := by rw [ha0]; rfl
  have gY172 : a0.eval (.tmp 172) = t172 := by rw [ha0]; rfl
  have gY173 : a0.eval (.tmp 173) = t173 := by rw [ha0]; rfl
  have gY174 : a0.eval (.tmp 174) = t174 := by rw [ha0]; rfl
  have gY175 : a0.eval (.tmp 175) = t175 := by rw [ha0]; rfl
  have gY176 : a0.eval (.tmp 176) = t176 := by rw [ha0]; rfl
  have gY177 : a0.eval (.tmp 177) = t177 := by rw [ha0]; rfl
  have gY178 : a0.eval (.tmp 178) = t178 := by rw [ha0]; rfl
  have gY179 : a0.eval (.tmp 179) = t179 := by rw [ha0]; rfl
  have gY180 : a0.eval (.tmp 180) = t180 := by rw [ha0]; rfl
  have gY181 : a0.eval (.tmp 181) = t181 := by rw [ha0]; rfl
  have gY182 : a0.eval (.tmp 182) = t182 := by rw [ha0]; rfl
  have gY183 : a0.eval (.tmp 183) = t183 := by rw [ha0]; rfl
  have gY184 : a0.eval (.tmp 184) = t184 := by rw [ha0]; rfl
  have gY185 : a0.eval (.tmp 185) = t185 := by rw [ha0]; rfl
  have gY186 : a0.eval (.tmp 186) = t186 := by rw [ha0]; rfl
  have gY187 : a0.eval (.tmp 187) = t187 := by rw [ha0]; rfl
  have gY188 : a0.eval (.tmp 188) = t188 := by rw [ha0]; rfl
  have gY189 : a0.eval (.tmp 189) = t189 := by rw [ha0]; rfl
  have gY190 : a0.eval (.tmp 190) = t190 := by rw [ha0]; rfl
  have gY191 : a0.eval (.tmp 191) = t191 := by rw [ha0]; rfl
  have gY192 : a0.eval (.tmp 192) = t192 := by rw [ha0]; rfl
  have gY193 : a0.eval (.tmp 193) = t193 := by rw [ha0]; rfl
  have gY194 : a0.eval (.tmp 194) = t194 := by rw [ha0]; rfl
  have gY195 : a0.eval (.tmp 195) = t195 := by rw [ha0]; rfl
  have gY196 : a0.eval (.tmp 196) = t196 := by rw [ha0]; rfl
  have gY197 : a0.eval (.tmp 197) = t197 := by rw [ha0]; rfl
  have gY198 : a0.eval (.tmp 198) = t198 := by rw [ha0]; rfl
  have gY199 : a0.eval (.tmp 199) = t199 := by rw [ha0]; rfl
  have gY200 : a0.eval (.tmp 200) = t200 := by rw [ha0]; rfl
  have gY201 : a0.eval (.tmp 201) = t201 := by rw [ha0]; rfl
  have gY202 : a0.eval (.tmp 202) = t202 := by rw [ha0]; rfl
  have gY203 : a0.eval (.tmp 203) = t203 := by rw [ha0]; rfl
  have gY204 : a0.eval (.tmp 204) = t204 := by rw [ha0]; rfl
  have gY205 : a0.eval (.tmp 205) = t205 := by rw [ha0]; rfl
  have gY206 : a0.eval (.tmp 206) = t206 := by rw [ha0]; rfl
  rw [← ha0]
  refine ka_core W lb loff L cl t db p a1 a2 c1 c2 l1 l2 a0 hs0 gY4 gY13 gY15 hI hcb q1 q2 hp ?_
  clear ha0
  intro a X E
  obtain ⟨nb, p7, kY19, m1, m2, m3, m4, m5, m6⟩ := E.f16 rfl
  have kY20 := E.p17 rfl
  have hq := fin X (a.eval (.tmp 103)) (a.eval (.tmp 104)) (a.eval (.tmp 105)) (a.eval (.tmp 106)) (a.eval (.tmp 107)) (a.eval (.tmp 108)) (a.eval (.tmp 109)) (a.eval (.tmp 110)) (a.eval (.tmp 111)) (a.eval (.tmp 112)) (a.eval (.tmp 113)) (a.eval (.tmp 114)) (a.eval (.tmp 115)) (a.eval (.tmp 116)) (a.eval (.tmp 117)) nb p7 E.lo m1 m2 m3 m4 m5 m6
  have ea : a = ⟨#[a.eval (.tmp 0), a.eval (.tmp 1), a.eval (.tmp 2), a.eval (.tmp 3), a.eval (.tmp 4), a.eval (.tmp 5), a.eval (.tmp 6), a.eval (.tmp 7), a.eval (.tmp 8), a.eval (.tmp 9), a.eval (.tmp 10), a.eval (.tmp 11), a.eval (.tmp 12), a.eval (.tmp 13), a.eval (.tmp 14), a.eval (.tmp 15), a.eval (.tmp 16), a.eval (.tmp 17), a.eval (.tmp 18), a.eval (.tmp 19), a.eval (.tmp 20), a.eval (.tmp 21), a.eval (.tmp 22), a.eval (.tmp 23), a.eval (.tmp 24), a.eval (.tmp 25), a.eval (.tmp 26), a.eval (.tmp 27), a.eval (.tmp 28), a.eval (.tmp 29), a.eval (.tmp 30), a.eval (.tmp 31), a.eval (.tmp 32), a.eval (.tmp 33), a.eval (.tmp 34), a.eval (.tmp 35), a.eval (.tmp 36), a.eval (.tmp 37), a.eval (.tmp 38), a.eval (.tmp 39), a.eval (.tmp 40), a.eval (.tmp 41), a.eval (.tmp 42), a.eval (.tmp 43), a.eval (.tmp 44), a.eval (.tmp 45), a.eval (.tmp 46), a.eval (.tmp 47), a.eval (.tmp 48), a.eval (.tmp 49), a.eval (.tmp 50), a.eval (.tmp 51), a.eval (.tmp 52), a.eval (.tmp 53), a.eval (.tmp 54), a.eval (.tmp 55), a.eval (.tmp 56), a.eval (.tmp 57), a.eval (.tmp 58), a.eval (.tmp 59), a.eval (.tmp 60), a.eval (.tmp 61), a.eval (.tmp 62), a.eval (.tmp 63), a.eval (.tmp 64), a.eval (.tmp 65), a.eval (.tmp 66), a.eval (.tmp 67), a.eval (.tmp 68), a.eval (.tmp 69), a.eval (.tmp 70), a.eval (.tmp 71), a.eval (.tmp 72), a.eval (.tmp 73), a.eval (.tmp 74), a.eval (.tmp 75), a.eval (.tmp 76), a.eval (.tmp 77), a.eval (.tmp 78), a.eval (.tmp 79), a.eval (.tmp 80), a.eval (.tmp 81), a.eval (.tmp 82), a.eval (.tmp 83), a.eval (.tmp 84), a.eval (.tmp 85), a.eval (.tmp 86), a.eval (.tmp 87), a.eval (.tmp 88), a.eval (.tmp 89), a.eval (.tmp 90), a.eval (.tmp 91), a.eval (.tmp 92), a.eval (.tmp 93), a.eval (.tmp 94), a.eval (.tmp 95), a.eval (.tmp 96), a.eval (.tmp 97), a.eval (.tmp 98), a.eval (.tmp 99), a.eval (.tmp 100), a.eval (.tmp 101), a.eval (.tmp 102), a.eval (.tmp 103), a.eval (.tmp 104), a.eval (.tmp 105), a.eval (.tmp 106), a.eval (.tmp 107), a.eval (.tmp 108), a.eval (.tmp 109), a.eval (.tmp 110), a.eval (.tmp 111), a.eval (.tmp 112), a.eval (.tmp 113), a.eval (.tmp 114), a.eval (.tmp 115), a.eval (.tmp 116), a.eval (.tmp 117), a.eval (.tmp 118), a.eval (.tmp 119), a.eval (.tmp 120), a.eval (.tmp 121), a.eval (.tmp 122), a.eval (.tmp 123), a.eval (.tmp 124), a.eval (.tmp 125), a.eval (.tmp 126), a.eval (.tmp 127), a.eval (.tmp 128), a.eval (.tmp 129), a.eval (.tmp 130), a.eval (.tmp 131), a.eval (.tmp 132), a.eval (.tmp 133), a.eval (.tmp 134), a.eval (.tmp 135), a.eval (.tmp 136), a.eval (.tmp 137), a.eval (.tmp 138), a.eval (.tmp 139), a.eval (.tmp 140), a.eval (.tmp 141), a.eval (.tmp 142), a.eval (.tmp 143), a.eval (.tmp 144), a.eval (.tmp 145), a.eval (.tmp 146), a.eval (.tmp 147), a.eval (.tmp 148), a.eval (.tmp 149), a.eval (.tmp 150), a.eval (.tmp 151), a.eval (.tmp 152), a.eval (.tmp 153), a.eval (.tmp 154), a.eval (.tmp 155), a.eval (.tmp 156), a.eval (.tmp 157), a.eval (.tmp 158), a.eval (.tmp 159), a.eval (.tmp 160), a.eval (.tmp 161), a.eval (.tmp 162), a.eval (.tmp 163), a.eval (.tmp 164), a.eval (.tmp 165), a.eval (.tmp 166), a.eval (.tmp 167), a.eval (.tmp 168), a.eval (.tmp 169), a.eval (.tmp 170), a.eval (.tmp 171), a.eval (.tmp 172), a.eval (.tmp 173), a.eval (.tmp 174), a.eval (.tmp 175), a.eval (.tmp 176), a.eval (.tmp 177), a.eval (.tmp 178), a.eval (.tmp 179), a.eval (.tmp 180), a.eval (.tmp 181), a.eval (.tmp 182), a.eval (.tmp 183), a.eval (.tmp 184), a.eval (.tmp 185), a.eval (.tmp 186), a.eval (.tmp 187), a.eval (.tmp 188), a.eval (.tmp 189), a.eval (.tmp 190), a.eval (.tmp 191), a.eval (.tmp 192), a.eval (.tmp 193), a.eval (.tmp 194), a.eval (.tmp 195), a.eval (.tmp 196), a.eval (.tmp 197), a.eval (.tmp 198), a.eval (.tmp 199), a.eval (.tmp 200), a.eval (.tmp 201), a.eval (.tmp 202), a.eval (.tmp 203), a.eval (.tmp 204), a.eval (.tmp 205), a.eval (.tmp 206)], a.defers⟩ := act_eta a 207 (E.sz.trans hs0)
  rw [ea, E.df, hd0]
  have kY0 : a.eval (.tmp 0) = t0 := (E.ag 0 (by omega) (by omega) (by omega)).trans gY0
  have kY1 : a.eval (.tmp 1) = t1 := (E.ag 1 (by omega) (by omega) (by omega)).trans gY1
  have kY2 : a.eval (.tmp 2) = t2 := (E.ag 2 (by omega) (by omega) (by omega)).trans gY2
  have kY3 : a.eval (.tmp 3) = t3 := (E.ag 3 (by omega) (by omega) (by omega)).trans gY3
  have kY4 : a.eval (.tmp 4) = .slice (some ⟨lb, loff, none⟩) L cl := (E.ag 4 (by omega) (by omega) (by omega)).trans gY4
  have kY5 : a.eval (.tmp 5) = t5 := (E.ag 5 (by omega) (by omega) (by omega)).trans gY5
  have kY6 : a.eval (.tmp 6) = t6 := (E.ag 6 (by omega) (by omega) (by omega)).trans gY6
  have kY7 : a.eval (.tmp 7) = t7 := (E.ag 7 (by omega) (by omega) (by omega)).trans gY7
  have kY8 : a.eval (.tmp 8) = t8 := (E.ag 8 (by omega) (by omega) (by omega)).trans gY8
  have kY9 : a.eval (.tmp 9) = t9 := (E.ag 9 (by omega) (by omega) (by omega)).trans gY9
  have kY10 : a.eval (.tmp 10) = t10 := (E.ag 10 (by omega) (by omega) (by omega)).trans gY10
  have kY11 : a.eval (.tmp 11) = t11 := (E.ag 11 (by omega) (by omega) (by omega)).trans gY11
  have kY12 : a.eval (.tmp 12) = t12 := (E.ag 12 (by omega) (by omega) (by omega)).trans gY12
  have kY13 : a.eval (.tmp 13) = .pointer (some ⟨db, 0, none⟩) := (E.ag 13 (by omega) (by omega) (by omega)).trans gY13
  have kY14 : a.eval (.tmp 14) = t14 := (E.ag 14 (by omega) (by omega) (by omega)).trans gY14
  have kY15 : a.eval (.tmp 15) = .int .i64 (t : Int) := (E.ag 15 (by omega) (by omega) (by omega)).trans gY15
  have kY16 : a.eval (.tmp 16) = t16 := (E.ag 16 (by omega) (by omega) (by omega)).trans gY16
  have kY17 : a.eval (.tmp 17) = t17 := (E.ag 17 (by omega) (by omega) (by omega)).trans gY17
  have kY18 : a.eval (.tmp 18) = t18 := (E.ag 18 (by omega) (by omega) (by omega)).trans gY18
  have kY21 : a.eval (.tmp 21) = t21 := (E.ag 21 (by omega) (by omega) (by omega)).trans gY21
  have kY22 : a.eval (.tmp 22) = t22 := (E.ag 22 (by omega) (by omega) (by omega)).trans gY22
  have kY23 : a.eval (.tmp 23) = t23 := (E.ag 23 (by omega) (by omega) (by omega)).trans gY23
  have kY24 : a.eval (.tmp 24) = t24 := (E.ag 24 (by omega) (by omega) (by omega)).trans gY24
  have kY25 : a.eval (.tmp 25) = t25 := (E.ag 25 (by omega) (by omega) (by omega)).trans gY25
  have kY26 : a.eval (.tmp 26) = t26 := (E.ag 26 (by omega) (by omega) (by omega)).trans gY26
  have kY27 : a.eval (.tmp 27) = t27 := (E.ag 27 (by omega) (by omega) (by omega)).trans gY27
  have kY28 : a.eval (.tmp 28) = t28 := (E.ag 28 (by omega) (by omega) (by omega)).trans gY28
  have kY29 : a.eval (.tmp 29) = t29 := (E.ag 29 (by omega) (by omega) (by omega)).trans gY29
  have kY30 : a.eval (.tmp 30) = t30 := (E.ag 30 (by omega) (by omega) (by omega)).trans gY30
  have kY31 : a.eval (.tmp 31) = t31 := (E.ag 31 (by omega) (by omega) (by omega)).trans gY31
  have kY32 : a.eval (.tmp 32) = t32 := (E.ag 32 (by omega) (by omega) (by omega)).trans gY32
  have kY33 : a.eval (.tmp 33) = t33 := (E.ag 33 (by omega) (by omega) (by omega)).trans gY33
  have kY34 : a.eval (.tmp 34) = t34 := (E.ag 34 (by omega) (by omega) (by omega)).trans gY34
  have kY35 : a.eval (.tmp 35) = t35 := (E.ag 35 (by omega) (by omega) (by omega)).trans gY35
  have kY36 : a.eval (.tmp 36) = t36 := (E.ag 36 (by omega) (by omega) (by omega)).trans gY36
  have kY37 : a.eval (.tmp 37) = t37 := (E.ag 37 (by omega) (by omega) (by omega)).trans gY37
  have kY38 : a.eval (.tmp 38) = t38 := (E.ag 38 (by omega) (by omega) (by omega)).trans gY38
  have kY39 : a.eval (.tmp 39) = t39 := (E.ag 39 (by omega) (by omega) (by omega)).trans gY39
  have kY40 : a.eval (.tmp 40) = t40 := (E.ag 40 (by omega) (by omega) (by omega)).trans gY40
  have kY41 : a.eval (.tmp 41) = t41 := (E.ag 41 (by omega) (by omega) (by omega)).trans gY41
  have kY42 : a.eval (.tmp 42) = t42 := (E.ag 42 (by omega) (by omega) (by omega)).trans gY42
  have kY43 : a.eval (.tmp 43) = t43 := (E.ag 43 (by omega) (by omega) (by omega)).trans gY43
  have kY44 : a.eval (.tmp 44) = t44 := (E.ag 44 (by omega) (by omega) (by omega)).trans gY44
  have kY45 : a.eval (.tmp 45) = t45 := (E.ag 45 (by omega) (by omega) (by omega)).trans gY45
  have kY46 : a.eval (.tmp 46) = t46 := (E.ag 46 (by omega) (by omega) (by omega)).trans gY46
  have kY47 : a.eval (.tmp 47) = t47 := (E.ag 47 (by omega) (by omega) (by omega)).trans gY47
  have kY48 : a.eval (.tmp 48) = t48 := (E.ag 48 (by omega) (by omega) (by omega)).trans gY48
  have kY49 : a.eval (.tmp 49) = t49 := (E.ag 49 (by omega) (by omega) (by omega)).trans gY49
  have kY50 : a.eval (.tmp 50) = t50 := (E.ag 50 (by omega) (by omega) (by omega)).trans gY50
  have kY51 : a.eval (.tmp 51) = t51 := (E.ag 51 (by omega) (by omega) (by omega)).trans gY51
  have kY52 : a.eval (.tmp 52) = t52 := (E.ag 52 (by omega) (by omega) (by omega)).trans gY52
  have kY53 : a.eval (.tmp 53) = t53 := (E.ag 53 (by omega) (by omega) (by omega)).trans gY53
  have kY54 : a.eval (.tmp 54) = t54 := (E.ag 54 (by omega) (by omega) (by omega)).trans gY54
  have kY55 : a.eval (.tmp 55) = t55 := (E.ag 55 (by omega) (by omega) (by omega)).trans gY55
  have kY56 : a.eval (.tmp 56) = t56 := (E.ag 56 (by omega) (by omega) (by omega)).trans gY56
  have kY57 : a.eval (.tmp 57) = t57 := (E.ag 57 (by omega) (by omega) (by omega)).trans gY57
  have kY58 : a.eval (.tmp 58) = t58 := (E.ag 58 (by omega) (by omega) (by omega)).trans gY58
  have kY59 : a.eval (.tmp 59) = t59 := (E.ag 59 (by omega) (by omega) (by omega)).trans gY59
  have kY60 : a.eval (.tmp 60) = t60 := (E.ag 60 (by omega) (by omega) (by omega)).trans gY60
  have kY61 : a.eval (.tmp 61) = t61 := (E.ag 61 (by omega) (by omega) (by omega)).trans gY61
  have kY62 : a.eval (.tmp 62) = t62 := (E.ag 62 (by omega) (by omega) (by omega)).trans gY62
  have kY63 : a.eval (.tmp 63) = t63 := (E.ag 63 (by omega) (by omega) (by omega)).trans gY63
  have kY64 : a.eval (.tmp 64) = t64 := (E.ag 64 (by omega) (by omega) (by omega)).trans gY64
  have kY65 : a.eval (.tmp 65) = t65 := (E.ag 65 (by omega) (by omega) (by omega)).trans gY65
  have kY66 : a.eval (.tmp 66) = t66 := (E.ag 66 (by omega) (by omega) (by omega)).trans gY66
  have kY67 : a.eval (.tmp 67) = t67 := (E.ag 67 (by omega) (by omega) (by omega)).trans gY67
  have kY68 : a.eval (.tmp 68) = t68 := (E.ag 68 (by omega) (by omega) (by omega)).trans gY68
  have kY69 : a.eval (.tmp 69) = t69 := (E.ag 69 (by omega) (by omega) (by omega)).trans gY69
  have kY70 : a.eval (.tmp 70) = t70 := (E.ag 70 (by omega) (by omega) (by omega)).trans gY70
  have kY71 : a.eval (.tmp 71) = t71 := (E.ag 71 (by omega) (by omega) (by omega)).trans gY71
  have kY72 : a.eval (.tmp 72) = t72 := (E.ag 72 (by omega) (by omega) (by omega)).trans gY72
  have kY73 : a.eval (.tmp 73) = t73 := (E.ag 73 (by omega) (by omega) (by omega)).trans gY73
  have kY74 : a.eval (.tmp 74) = t74 := (E.ag 74 (by omega) (by omega) (by omega)).trans gY74
  have kY75 : a.eval (.tmp 75) = t75 := (E.ag 75 (by omega) (by omega) (by omega)).trans gY75
  have kY76 : a.eval (.tmp 76) = t76 := (E.ag 76 (by omega) (by omega) (by omega)).trans gY76
  have kY77 : a.eval (.tmp 77) = t77 := (E.ag 77 (by omega) (by omega) (by omega)).trans gY77
  have kY78 : a.eval (.tmp 78) = t78 := (E.ag 78 (by omega) (by omega) (by omega)).trans gY78
  have kY79 : a.eval (.tmp 79) = t79 := (E.ag 79 (by omega) (by omega) (by omega)).trans gY79
  have kY80 : a.eval (.tmp 80) = t80 := (E.ag 80 (by omega) (by omega) (by omega)).trans gY80
  have kY81 : a.eval (.tmp 81) = t81 := (E.ag 81 (by omega) (by omega) (by omega)).trans gY81
  have kY82 : a.eval (.tmp 82) = t82 := (E.ag 82 (by omega) (by omega) (by omega)).trans gY82
  have kY83 : a.eval (.tmp 83) = t83 := (E.ag 83 (by omega) (by omega) (by omega)).trans gY83
  have kY84 : a.eval (.tmp 84) = t84 := (E.ag 84 (by omega) (by omega) (by omega)).trans gY84
  have kY85 : a.eval (.tmp 85) = t85 := (E.ag 85 (by omega) (by omega) (by omega)).trans gY85
  have kY86 : a.eval (.tmp 86) = t86 := (E.ag 86 (by omega) (by omega) (by omega)).trans gY86
  have kY87 : a.eval (.tmp 87) = t87 := (E.ag 87 (by omega) (by omega) (by omega)).trans gY87
  have kY88 : a.eval (.tmp 88) = t88 := (E.ag 88 (by omega) (by omega) (by omega)).trans gY88
  have kY89 : a.eval (.tmp 89) = t89 := (E.ag 89 (by omega) (by omega) (by omega)).trans gY89
  have kY90 : a.eval (.tmp 90) = t90 := (E.ag 90 (by omega) (by omega) (by omega)).trans gY90
  have kY91 : a.eval (.tmp 91) = t91 := (E.ag 91 (by omega) (by omega) (by omega)).trans gY91
  have kY92 : a.eval (.tmp 92) = t92 := (E.ag 92 (by omega) (by omega) (by omega)).trans gY92
  have kY93 : a.eval (.tmp 93) = t93 := (E.ag 93 (by omega) (by omega) (by omega)).trans gY93
  have kY94 : a.eval (.tmp 94) = t94 := (E.ag 94 (by omega) (by omega) (by omega)).trans gY94
  have kY95 : a.eval (.tmp 95) = t95 := (E.ag 95 (by omega) (by omega) (by omega)).trans gY95
  have kY96 : a.eval (.tmp 96) = t96 := (E.ag 96 (by omega) (by omega) (by omega)).trans gY96
  have kY97 : a.eval (.tmp 97) = t97 := (E.ag 97 (by omega) (by omega) (by omega)).trans gY97
  have kY98 : a.eval (.tmp 98) = t98 := (E.ag 98 (by omega) (by omega) (by omega)).trans gY98
  have kY99 : a.eval (.tmp 99) = t99 := (E.ag 99 (by omega) (by omega) (by omega)).trans gY99
  have kY100 : a.eval (.tmp 100) = t100 := (E.ag 100 (by omega) (by omega) (by omega)).trans gY100
  have kY101 : a.eval (.tmp 101) = t101 := (E.ag 101 (by omega) (by omega) (by omega)).trans gY101
  have kY102 : a.eval (.tmp 102) = t102 := (E.ag 102 (by omega) (by omega) (by omega)).trans gY102
  have kY118 : a.eval (.tmp 118) = t118 := (E.ag 118 (by omega) (by omega) (by omega)).trans gY118
  have kY119 : a.eval (.tmp 119) = t119 := (E.ag 119 (by omega) (by omega) (by omega)).trans gY119
  have kY120 : a.eval (.tmp 120) = t120 := (E.ag 120 (by omega) (by omega) (by omega)).trans gY120
  have kY121 : a.eval (.tmp 121) = t121 := (E.ag 121 (by omega) (by omega) (by omega)).trans gY121
  have kY122 : a.eval (.tmp 122) = t122 := (E.ag 122 (by omega) (by omega) (by omega)).trans gY122
  have kY123 : a.eval (.tmp 123) = t123 := (E.ag 123 (by omega) (by omega) (by omega)).trans gY123
  have kY124 : a.eval (.tmp 124) = t124 := (E.ag 124 (by omega) (by omega) (by omega)).trans gY124
  have kY125 : a.eval (.tmp 125) = t125 := (E.ag 125 (by omega) (by omega) (by omega)).trans gY125
  have kY126 : a.eval (.tmp 126) = t126 := (E.ag 126 (by omega) (by omega) (by omega)).trans gY126
  have kY127 : a.eval (.tmp 127) = t127 := (E.ag 127 (by omega) (by omega) (by omega)).trans gY127
  have kY128 : a.eval (.tmp 128) = t128 := (E.ag 128 (by omega) (by omega) (by omega)).trans gY128
  have kY129 : a.eval (.tmp 129) = t129 := (E.ag 129 (by omega) (by omega) (by omega)).trans gY129
  have kY130 : a.eval (.tmp 130) = t130 := (E.ag 130 (by omega) (by omega) (by omega)).trans gY130
  have kY131 : a.eval (.tmp 131) = t131 := (E.ag 131 (by omega) (by omega) (by omega)).trans gY131
  have kY132 : a.eval (.tmp 132) = t132 := (E.ag 132 (by omega) (by omega) (by omega)).trans gY132
  have kY133 : a.eval (.tmp 133) = t133 := (E.ag 133 (by omega) (by omega) (by omega)).trans gY133
  have kY134 : a.eval (.tmp 134) = t134 := (E.ag 134 (by omega) (by omega) (by omega)).trans gY134
  have kY135 : a.eval (.tmp 135) = t135 := (E.ag 135 (by omega) (by omega) (by omega)).trans gY135
  have kY136 : a.eval (.tmp 136) = t136 := (E.ag 136 (by omega) (by omega) (by omega)).trans gY136
  have kY137 : a.eval (.tmp 137) = t137 := (E.ag 137 (by omega) (by omega) (by omega)).trans gY137
  have kY138 : a.eval (.tmp 138) = t138 := (E.ag 138 (by omega) (by omega) (by omega)).trans gY138
  have kY139 : a.eval (.tmp 139) = t139 := (E.ag 139 (by omega) (by omega) (by omega)).trans gY139
  have kY140 : a.eval (.tmp 140) = t140 := (E.ag 140 (by omega) (by omega) (by omega)).trans gY140
  have kY141 : a.eval (.tmp 141) = t141 := (E.ag 141 (by omega) (by omega) (by omega)).trans gY141
  have kY142 : a.eval (.tmp 142) = t142 := (E.ag 142 (by omega) (by omega) (by omega)).trans gY142
  have kY143 : a.eval (.tmp 143) = t143 := (E.ag 143 (by omega) (by omega) (by omega)).trans gY143
  have kY144 : a.eval (.tmp 144) = t144 := (E.ag 144 (by omega) (by omega) (by omega)).trans gY144
  have kY145 : a.eval (.tmp 145) = t145 := (E.ag 145 (by omega) (by omega) (by omega)).trans gY145
  have kY146 : a.eval (.tmp 146) = t146 := (E.ag 146 (by omega) (by omega) (by omega)).trans gY146
  have kY147 : a.eval (.tmp 147) = t147 := (E.ag 147 (by omega) (by omega) (by omega)).trans gY147
  have kY148 : a.eval (.tmp 148) = t148 := (E.ag 148 (by omega) (by omega) (by omega)).trans gY148
  have kY149 : a.eval (.tmp 149) = t149 := (E.ag 149 (by omega) (by omega) (by omega)).trans gY149
  have kY150 : a.eval (.tmp 150) = t150 := (E.ag 150 (by omega) (by omega) (by omega)).trans gY150
  have kY151 : a.eval (.tmp 151) = t151 := (E.ag 151 (by omega) (by omega) (by omega)).trans gY151
  have kY152 : a.eval (.tmp 152) = t152 := (E.ag 152 (by omega) (by omega) (by omega)).trans gY152
  have kY153 : a.eval (.tmp 153) = t153 := (E.ag 153 (by omega) (by omega) (by omega)).trans gY153
  have kY154 : a.eval (.tmp 154) = t154 := (E.ag 154 (by omega) (by omega) (by omega)).trans gY154
  have kY155 : a.eval (.tmp 155) = t155 := (E.ag 155 (by omega) (by omega) (by omega)).trans gY155
  have kY156 : a.eval (.tmp 156) = t156 := (E.ag 156 (by omega) (by omega) (by omega)).trans gY156
  have kY157 : a.eval (.tmp 157) = t157 := (E.ag 157 (by omega) (by omega) (by omega)).trans gY157
  have kY158 : a.eval (.tmp 158) = t158 := (E.ag 158 (by omega) (by omega) (by omega)).trans gY158
  have kY159 : a.eval (.tmp 159) = t159 := (E.ag 159 (by omega) (by omega) (by omega)).trans gY159
  have kY160 : a.eval (.tmp 160) = t160 := (E.ag 160 (by omega) (by omega) (by omega)).trans gY160
  have kY161 : a.eval (.tmp 161) = t161 := (E.ag 161 (by omega) (by omega) (by omega)).trans gY161
  have kY162 : a.eval (.tmp 162) = t162 := (E.ag 162 (by omega) (by omega) (by omega)).trans gY162
  have kY163 : a.eval (.tmp 163) = t163 := (E.ag 163 (by omega) (by omega) (by omega)).trans gY163
  have kY164 : a.eval (.tmp 164) = t164 := (E.ag 164 (by omega) (by omega) (by omega)).trans gY164
  have kY165 : a.eval (.tmp 165) = t165 := (E.ag 165 (by omega) (by omega) (by omega)).trans gY165
  have kY166 : a.eval (.tmp 166) = t166 := (E.ag 166 (by omega) (by omega) (by omega)).trans gY166
  have kY167 : a.eval (.tmp 167) = t167 := (E.ag 167 (by omega) (by omega) (by omega)).trans gY167
  have kY168 : a.eval (.tmp 168) = t168 := (E.ag 168 (by omega) (by omega) (by omega)).trans gY168
  have kY169 : a.eval (.tmp 169) = t169 := (E.ag 169 (by omega) (by omega) (by omega)).trans gY169
  have kY170 : a.eval (.tmp 170) = t170 := (E.ag 170 (by omega) (by omega) (by omega)).trans gY170
  have kY171 : a.eval (.tmp 171) = t171 := (E.ag 171 (by omega) (by omega) (by omega)).trans gY171
  have kY172 : a.eval (.tmp 172) = t172 := (E.ag 172 (by omega) (by omega) (by omega)).trans gY172
  have kY173 : a.eval (.tmp 173) = t173 := (E.ag 173 (by omega) (by omega) (by omega)).trans gY173
  have kY174 : a.eval (.tmp 174) = t174 := (E.ag 174 (by omega) (by omega) (by omega)).trans gY174
  have kY175 : a.eval (.tmp 175) = t175 := (E.ag 175 (by omega) (by omega) (by omega)).trans gY175
  have kY176 : a.eval (.tmp 176) = t176 := (E.ag 176 (by omega) (by omega) (by omega)).trans gY176
  have kY177 : a.eval (.tmp 177) = t177 := (E.ag 177 (by omega) (by omega) (by omega)).trans gY177
  have kY178 : a.eval (.tmp 178) = t178 := (E.ag 178 (by omega) (by omega) (by omega)).trans gY178
  have kY179 : a.eval (.tmp 179) = t179 := (E.ag 179 (by omega) (by omega) (by omega)).trans gY179
  have kY180 : a.eval (.tmp 180) = t180 := (E.ag 180 (by omega) (by omega) (by omega)).trans gY180
  have kY181 : a.eval (.tmp 181) = t181 := (E.ag 181 (by omega) (by omega) (by omega)).trans gY181
  have kY182 : a.eval (.tmp 182) = t182 := (E.ag 182 (by omega) (by omega) (by omega)).trans gY182
  have kY183 : a.eval (.tmp 183) = t183 := (E.ag 183 (by omega) (by omega) (by omega)).trans gY183
  have kY184 : a.eval (.tmp 184) = t184 := (E.ag 184 (by omega) (by omega) (by omega)).trans gY184
  have kY185 : a.eval (.tmp 185) = t185 := (E.ag 185 (by omega) (by omega) (by omega)).trans gY185
  have kY186 : a.eval (.tmp 186) = t186 := (E.ag 186 (by omega) (by omega) (by omega)).trans gY186
  have kY187 : a.eval (.tmp 187) = t187 := (E.ag 187 (by omega) (by omega) (by omega)).trans gY187
  have kY188 : a.eval (.tmp 188) = t188 := (E.ag 188 (by omega) (by omega) (by omega)).trans gY188
  have kY189 : a.eval (.tmp 189) = t189 := (E.ag 189 (by omega) (by omega) (by omega)).trans gY189
  have kY190 : a.eval (.tmp 190) = t190 := (E.ag 190 (by omega) (by omega) (by omega)).trans gY190
  have kY191 : a.eval (.tmp 191) = t191 := (E.ag 191 (by omega) (by omega) (by omega)).trans gY191
  have kY192 : a.eval (.tmp 192) = t192 := (E.ag 192 (by omega) (by omega) (by omega)).trans gY192
  have kY193 : a.eval (.tmp 193) = t193 := (E.ag 193 (by omega) (by omega) (by omega)).trans gY193
  have kY194 : a.eval (.tmp 194) = t194 := (E.ag 194 (by omega) (by omega) (by omega)).trans gY194
  have kY195 : a.eval (.tmp 195) = t195 := (E.ag 195 (by omega) (by omega) (by omega)).trans gY195
  have kY196 : a.eval (.tmp 196) = t196 := (E.ag 196 (by omega) (by omega) (by omega)).trans gY196
  have kY197 : a.eval (.tmp 197) = t197 := (E.ag 197 (by omega) (by omega) (by omega)).trans gY197
  have kY198 : a.eval (.tmp 198) = t198 := (E.ag 198 (by omega) (by omega) (by omega)).trans gY198
  have kY199 : a.eval (.tmp 199) = t199 := (E.ag 199 (by omega) (by omega) (by omega)).trans gY199
  have kY200 : a.eval (.tmp 200) = t200 := (E.ag 200 (by omega) (by omega) (by omega)).trans gY200
  have kY201 : a.eval (.tmp 201) = t201 := (E.ag 201 (by omega) (by omega) (by omega)).trans gY201
  have kY202 : a.eval (.tmp 202) = t202 := (E.ag 202 (by omega) (by omega) (by omega)).trans gY202
  have kY203 : a.eval (.tmp 203) = t203 := (E.ag 203 (by omega) (by omega) (by omega)).trans gY203
  have kY204 : a.eval (.tmp 204) = t204 := (E.ag 204 (by omega) (by omega) (by omega)).trans gY204
  have kY205 : a.eval (.tmp 205) = t205 := (E.ag 205 (by omega) (by omega) (by omega)).trans gY205
  have kY206 : a.eval (.tmp 206) = t206 := (E.ag 206 (by omega) (by omega) (by omega)).trans gY206
  rw [kY0, kY1, kY2, kY3, kY4, kY5, kY6, kY7, kY8, kY9, kY10, kY11, kY12, kY13, kY14, kY15, kY16, kY17, kY18, kY19, kY20, kY21, kY22, kY23, kY24, kY25, kY26, kY27, kY28, kY29, kY30, kY31, kY32, kY33, kY34, kY35, kY36, kY37, kY38, kY39, kY40, kY41, kY42, kY43, kY44, kY45, kY46, kY47, kY48, kY49, kY50, kY51, kY52, kY53, kY54, kY55, kY56, kY57, kY58, kY59, kY60, kY61, kY62, kY63, kY64, kY65, kY66, kY67, kY68, kY69, kY70, kY71, kY72, kY73, kY74, kY75, kY76, kY77, kY78, kY79, kY80, kY81, kY82, kY83, kY84, kY85, kY86, kY87, kY88, kY89, kY90, kY91, kY92, kY93, kY94, kY95, kY96, kY97, kY98, kY99, kY100, kY101, kY102, kY118, kY119, kY120, kY121, kY122, kY123, kY124, kY125, kY126, kY127, kY128, kY129, kY130, kY131, kY132, kY133, kY134, kY135, kY136, kY137, kY138, kY139, kY140, kY141, kY142, kY143, kY144, kY145, kY146, kY147, kY148, kY149, kY150, kY151, kY152, kY153, kY154, kY155, kY156, kY157, kY158, kY159, kY160, kY161, kY162, kY163, kY164, kY165, kY166, kY167, kY168, kY169, kY170, kY171, kY172, kY173, kY174, kY175, kY176, kY177, kY178, kY179, kY180, kY181, kY182, kY183, kY184, kY185, kY186, kY187, kY188, kY189, kY190, kY191, kY192, kY193, kY194, kY195, kY196, kY197, kY198, kY199, kY200, kY201, kY202, kY203, kY204, kY205, kY206]
  exact hq

end Go.Proofs.Ytemalidanjfmkaa
