/-
  A statement of the law PointPlays whose order is open: what the reference's Tell leaves, in a new block.
-/
import Derived.Test.YtaldjpjlggnhhaaOInv
import Derived.Test.YtaldjpjlggnhhaaJAct
import Derived.Test.YtaldjpjlggnhhaaJRef
namespace Go.Proofs.Ytaldjpjlggnhhaa
set_option linter.unusedVariables false
open Go.RowKit

def ja0 : Oper := { dst := some 127, op := Op.load 28 (Operand.tmp 9), type := 28, pos := "law.go:54", after := #[], guard := none }
def ja1 : Oper := { dst := some 128, op := Op.move (Operand.tmp 2), type := 22, pos := "law.go:54", after := #[], guard := none }
def ja2 : Oper := { dst := some 129, op := Op.move (Operand.tmp 11), type := 3, pos := "law.go:54", after := #[], guard := none }
def ja3 : Oper := { dst := some 130, op := Op.call { callee := Callee.value (Operand.func 17), args := #[Operand.tmp 128, Operand.tmp 129], argTypes := #[22, 3] }, type := 4, pos := "law.go:54", after := #[{ on := 1, ground := Ground.data }, { on := 2, ground := Ground.data }], guard := none }
def ja4 : Oper := { dst := some 131, op := Op.call { callee := Callee.value (Operand.func 18), args := #[Operand.tmp 127, Operand.tmp 130], argTypes := #[28, 4] }, type := 29, pos := "law.go:54", after := #[{ on := 0, ground := Ground.data }, { on := 3, ground := Ground.data }, { on := 3, ground := Ground.chain }], guard := none }
def ja5 : Oper := { dst := some 126, op := Op.move (Operand.tmp 131), type := 29, pos := "law.go:54", after := #[{ on := 4, ground := Ground.data }], guard := none }
def ja6 : Oper := { dst := some 132, op := Op.extract (Operand.tmp 126) 0, type := 28, pos := "law.go:54", after := #[{ on := 5, ground := Ground.data }], guard := none }
def ja7 : Oper := { dst := some 133, op := Op.extract (Operand.tmp 126) 1, type := 3, pos := "law.go:54", after := #[{ on := 5, ground := Ground.data }, { on := 9, ground := Ground.gcOnly Departure.lateStores }], guard := none }
def ja8 : Oper := { dst := some 21, op := Op.alloc 28, type := 0, pos := "law.go:54", after := #[], guard := none }
def ja9 : Oper := { dst := none, op := Op.store 28 (Operand.tmp 21) (Operand.tmp 132), type := 0, pos := "law.go:54", after := #[{ on := 8, ground := Ground.data }, { on := 6, ground := Ground.data }, { on := 4, ground := Ground.chain }, { on := 0, ground := Ground.phase }, { on := 1, ground := Ground.phase }, { on := 2, ground := Ground.phase }, { on := 3, ground := Ground.phase }, { on := 4, ground := Ground.phase }, { on := 5, ground := Ground.phase }, { on := 6, ground := Ground.phase }, { on := 7, ground := Ground.textOnly Departure.lateStores }, { on := 8, ground := Ground.phase }], guard := none }
def ja10 : Oper := { dst := some 22, op := Op.assign (Operand.tmp 133), type := 3, pos := "law.go:54", after := #[{ on := 7, ground := Ground.data }, { on := 9, ground := Ground.chain }, { on := 0, ground := Ground.phase }, { on := 1, ground := Ground.phase }, { on := 2, ground := Ground.phase }, { on := 3, ground := Ground.phase }, { on := 4, ground := Ground.phase }, { on := 5, ground := Ground.phase }, { on := 6, ground := Ground.phase }, { on := 7, ground := Ground.phase }, { on := 8, ground := Ground.phase }, { on := 9, ground := Ground.phase }], guard := none }
def jaOps : Array Oper := #[ja0, ja1, ja2, ja3, ja4, ja5, ja6, ja7, ja8, ja9, ja10]

theorem jst6 {w : World} {b : Nat} {a0 a1 a2 a3 a4 a5 : Value} (h : Bk w b [a0, a1, a2, a3, a4, a5] 28) (n0 n1 n2 n3 n5 : Int) (n4 : Bool) : (Instr.storeAt 28 (.pointer (some ⟨b, 0, none⟩)) (.agg #[.int .i64 n0, .int .i64 n1, .int .i64 n2, .int .i64 n3, .bool n4, .int .i64 n5])).run Try.prog w = .ok () ((((((w.setCell ⟨b, 0, none⟩ (.int .i64 n0)).setCell ⟨b, 1, none⟩ (.int .i64 n1)).setCell ⟨b, 2, none⟩ (.int .i64 n2)).setCell ⟨b, 3, none⟩ (.int .i64 n3)).setCell ⟨b, 4, none⟩ (.bool n4)).setCell ⟨b, 5, none⟩ (.int .i64 n5)) := by
  obtain ⟨⟨p0, p1, p2, p3, p4, p5⟩, f0, f1, f2, f3, f4, f5⟩ := h.c6
  go_simp
theorem jld6 {w : World} {b : Nat} {n0 n1 n2 n3 n5 : Int} {n4 : Bool} (h : Bk w b [.int .i64 n0, .int .i64 n1, .int .i64 n2, .int .i64 n3, .bool n4, .int .i64 n5] 28) : (Instr.loadAt 28 (.pointer (some ⟨b, 0, none⟩))).run Try.prog w = .ok (.agg #[.int .i64 n0, .int .i64 n1, .int .i64 n2, .int .i64 n3, .bool n4, .int .i64 n5]) w := by
  obtain ⟨⟨p0, p1, p2, p3, p4, p5⟩, -, -, -, -, -, -⟩ := h.c6
  go_simp
theorem jal6 (w : World) : (Instr.alloc 28 true (.tuple #[])).run Try.prog w = .ok (.pointer (some ⟨w.heap.size, 0, none⟩)) (w.alloc (.cells #[.int .i64 0, .int .i64 0, .int .i64 0, .int .i64 0, .bool false, .int .i64 0] 28)) := by
  go_simp

/-- What holds when some have come. -/
structure JJ (a0 : Act) (W0 : World) (tb : Nat) (la : Option Addr) (ll lc : Nat) (iv s0 s1 s2 s3 s5 n0 n1 n2 n3 n5 er : Int) (s4 n4 V : Bool) (D : Nat → Bool) (x : Act) (W : World) : Prop where
  sz : x.tmps.size = a0.tmps.size
  df : x.defers = a0.defers
  ag : ∀ t : Nat, t < 126 ∨ 133 < t → t ≠ 21 → t ≠ 22 → x.eval (.tmp t) = a0.eval (.tmp t)
  lo : Below W0.heap.size W0 W
  v0 : D 0 = true → x.eval (.tmp 127) = .agg #[.int .i64 s0, .int .i64 s1, .int .i64 s2, .int .i64 s3, .bool s4, .int .i64 s5]
  v1 : D 1 = true → x.eval (.tmp 128) = .slice la ll lc
  v2 : D 2 = true → x.eval (.tmp 129) = .int .i64 iv
  v3 : D 3 = true → x.eval (.tmp 130) = .bool V
  v4 : D 4 = true → x.eval (.tmp 131) = .tuple #[.agg #[.int .i64 n0, .int .i64 n1, .int .i64 n2, .int .i64 n3, .bool n4, .int .i64 n5], .int .i64 er]
  v5 : D 5 = true → x.eval (.tmp 126) = .tuple #[.agg #[.int .i64 n0, .int .i64 n1, .int .i64 n2, .int .i64 n3, .bool n4, .int .i64 n5], .int .i64 er]
  v6 : D 6 = true → x.eval (.tmp 132) = .agg #[.int .i64 n0, .int .i64 n1, .int .i64 n2, .int .i64 n3, .bool n4, .int .i64 n5]
  v7 : D 7 = true → x.eval (.tmp 133) = .int .i64 er
  v10 : D 10 = true → x.eval (.tmp 22) = .int .i64 er
  a8 : D 8 = true → D 9 = false → ∃ nb, x.eval (.tmp 21) = .pointer (some ⟨nb, 0, none⟩) ∧ W0.heap.size ≤ nb ∧ Bk W nb [.int .i64 0, .int .i64 0, .int .i64 0, .int .i64 0, .bool false, .int .i64 0] 28
  f9 : D 9 = true → ∃ nb, x.eval (.tmp 21) = .pointer (some ⟨nb, 0, none⟩) ∧ W0.heap.size ≤ nb ∧ Bk W nb [.int .i64 n0, .int .i64 n1, .int .i64 n2, .int .i64 n3, .bool n4, .int .i64 n5] 28
section
variable {tb : Nat} {la : Option Addr} {ll lc : Nat} {iv s0 s1 s2 s3 s5 n0 n1 n2 n3 n5 er : Int} {s4 n4 V : Bool}
theorem JJ.grow {a0 x : Act} {W0 W W' : World} {D : Nat → Bool} (E : JJ a0 W0 tb la ll lc iv s0 s1 s2 s3 s5 n0 n1 n2 n3 n5 er s4 n4 V D x W) (hb : Below W.heap.size W W') : JJ a0 W0 tb la ll lc iv s0 s1 s2 s3 s5 n0 n1 n2 n3 n5 er s4 n4 V D x W' :=
  { E with
    lo := E.lo.trans (hb.mono E.lo.size)
    a8 := fun h h' => by
      obtain ⟨nb, e, h1, h2⟩ := E.a8 h h'
      exact ⟨nb, e, h1, h2.below hb⟩
    f9 := fun h => by
      obtain ⟨nb, e, h1, h2⟩ := E.f9 h
      exact ⟨nb, e, h1, h2.below hb⟩ }

theorem JJ.w0 {a0 x : Act} {W0 W : World} {D : Nat → Bool} (E : JJ a0 W0 tb la ll lc iv s0 s1 s2 s3 s5 n0 n1 n2 n3 n5 er s4 n4 V D x W) (hcl : ClsD jaOps D) (hD : D 0 = false) (hs0 : a0.tmps.size = 142) {v : Value} (hv : v = .agg #[.int .i64 s0, .int .i64 s1, .int .i64 s2, .int .i64 s3, .bool s4, .int .i64 s5]) :
    JJ a0 W0 tb la ll lc iv s0 s1 s2 s3 s5 n0 n1 n2 n3 n5 er s4 n4 V (fun k => decide (k = 0) || D k) (x.put (some 127) v) W := by
  have hsz : 127 < x.tmps.size := by rw [E.sz, hs0]; decide
  refine { sz := by rw [← E.sz]; simp [Act.put], df := E.df, ag := fun t h1 h2 h3 => (ev_neZ (by omega)).trans (E.ag t h1 h2 h3), lo := E.lo, v0 := ?v0, v1 := ?v1, v2 := ?v2, v3 := ?v3, v4 := ?v4, v5 := ?v5, v6 := ?v6, v7 := ?v7, v10 := ?v10, a8 := ?a8, f9 := ?f9 }
  case v0 =>
    intro _
    rw [ev_sameZ hsz]; exact hv
  case v1 =>
    intro h
    simp at h
    rw [show (x.put (some 127) v).eval (.tmp 128) = x.eval (.tmp 128) from ev_neZ (by decide)]
    exact E.v1 h
  case v2 =>
    intro h
    simp at h
    rw [show (x.put (some 127) v).eval (.tmp 129) = x.eval (.tmp 129) from ev_neZ (by decide)]
    exact E.v2 h
  case v3 =>
    intro h
    simp at h
    rw [show (x.put (some 127) v).eval (.tmp 130) = x.eval (.tmp 130) from ev_neZ (by decide)]
    exact E.v3 h
  case v4 =>
    intro h
    simp at h
    rw [show (x.put (some 127) v).eval (.tmp 131) = x.eval (.tmp 131) from ev_neZ (by decide)]
    exact E.v4 h
  case v5 =>
    intro h
    simp at h
    rw [show (x.put (some 127) v).eval (.tmp 126) = x.eval (.tmp 126) from ev_neZ (by decide)]
    exact E.v5 h
  case v6 =>
    intro h
    simp at h
    rw [show (x.put (some 127) v).eval (.tmp 132) = x.eval (.tmp 132) from ev_neZ (by decide)]
    exact E.v6 h
  case v7 =>
    intro h
    simp at h
    rw [show (x.put (some 127) v).eval (.tmp 133) = x.eval (.tmp 133) from ev_neZ (by decide)]
    exact E.v7 h
  case v10 =>
    intro h
    simp at h
    rw [show (x.put (some 127) v).eval (.tmp 22) = x.eval (.tmp 22) from ev_neZ (by decide)]
    exact E.v10 h
  case a8 =>
    intro h h'
    simp at h
    simp at h'
    rw [show (x.put (some 127) v).eval (.tmp 21) = x.eval (.tmp 21) from ev_neZ (by decide)]
    exact E.a8 h h'
  case f9 =>
    intro h
    simp at h
    rw [show (x.put (some 127) v).eval (.tmp 21) = x.eval (.tmp 21) from ev_neZ (by decide)]
    exact E.f9 h
theorem JJ.w1 {a0 x : Act} {W0 W : World} {D : Nat → Bool} (E : JJ a0 W0 tb la ll lc iv s0 s1 s2 s3 s5 n0 n1 n2 n3 n5 er s4 n4 V D x W) (hcl : ClsD jaOps D) (hD : D 1 = false) (hs0 : a0.tmps.size = 142) {v : Value} (hv : v = .slice la ll lc) :
    JJ a0 W0 tb la ll lc iv s0 s1 s2 s3 s5 n0 n1 n2 n3 n5 er s4 n4 V (fun k => decide (k = 1) || D k) (x.put (some 128) v) W := by
  have hsz : 128 < x.tmps.size := by rw [E.sz, hs0]; decide
  refine { sz := by rw [← E.sz]; simp [Act.put], df := E.df, ag := fun t h1 h2 h3 => (ev_neZ (by omega)).trans (E.ag t h1 h2 h3), lo := E.lo, v0 := ?v0, v1 := ?v1, v2 := ?v2, v3 := ?v3, v4 := ?v4, v5 := ?v5, v6 := ?v6, v7 := ?v7, v10 := ?v10, a8 := ?a8, f9 := ?f9 }
  case v0 =>
    intro h
    simp at h
    rw [show (x.put (some 128) v).eval (.tmp 127) = x.eval (.tmp 127) from ev_neZ (by decide)]
    exact E.v0 h
  case v1 =>
    intro _
    rw [ev_sameZ hsz]; exact hv
  case v2 =>
    intro h
    simp at h
    rw [show (x.put (some 128) v).eval (.tmp 129) = x.eval (.tmp 129) from ev_neZ (by decide)]
    exact E.v2 h
  case v3 =>
    intro h
    simp at h
    rw [show (x.put (some 128) v).eval (.tmp 130) = x.eval (.tmp 130) from ev_neZ (by decide)]
    exact E.v3 h
  case v4 =>
    intro h
    simp at h
    rw [show (x.put (some 128) v).eval (.tmp 131) = x.eval (.tmp 131) from ev_neZ (by decide)]
    exact E.v4 h
  case v5 =>
    intro h
    simp at h
    rw [show (x.put (some 128) v).eval (.tmp 126) = x.eval (.tmp 126) from ev_neZ (by decide)]
    exact E.v5 h
  case v6 =>
    intro h
    simp at h
    rw [show (x.put (some 128) v).eval (.tmp 132) = x.eval (.tmp 132) from ev_neZ (by decide)]
    exact E.v6 h
  case v7 =>
    intro h
    simp at h
    rw [show (x.put (some 128) v).eval (.tmp 133) = x.eval (.tmp 133) from ev_neZ (by decide)]
    exact E.v7 h
  case v10 =>
    intro h
    simp at h
    rw [show (x.put (some 128) v).eval (.tmp 22) = x.eval (.tmp 22) from ev_neZ (by decide)]
    exact E.v10 h
  case a8 =>
    intro h h'
    simp at h
    simp at h'
    rw [show (x.put (some 128) v).eval (.tmp 21) = x.eval (.tmp 21) from ev_neZ (by decide)]
    exact E.a8 h h'
  case f9 =>
    intro h
    simp at h
    rw [show (x.put (some 128) v).eval (.tmp 21) = x.eval (.tmp 21) from ev_neZ (by decide)]
    exact E.f9 h
theorem JJ.w2 {a0 x : Act} {W0 W : World} {D : Nat → Bool} (E : JJ a0 W0 tb la ll lc iv s0 s1 s2 s3 s5 n0 n1 n2 n3 n5 er s4 n4 V D x W) (hcl : ClsD jaOps D) (hD : D 2 = false) (hs0 : a0.tmps.size = 142) {v : Value} (hv : v = .int .i64 iv) :
    JJ a0 W0 tb la ll lc iv s0 s1 s2 s3 s5 n0 n1 n2 n3 n5 er s4 n4 V (fun k => decide (k = 2) || D k) (x.put (some 129) v) W := by
  have hsz : 129 < x.tmps.size := by rw [E.sz, hs0]; decide
  refine { sz := by rw [← E.sz]; simp [Act.put], df := E.df, ag := fun t h1 h2 h3 => (ev_neZ (by omega)).trans (E.ag t h1 h2 h3), lo := E.lo, v0 := ?v0, v1 := ?v1, v2 := ?v2, v3 := ?v3, v4 := ?v4, v5 := ?v5, v6 := ?v6, v7 := ?v7, v10 := ?v10, a8 := ?a8, f9 := ?f9 }
  case v0 =>
    intro h
    simp at h
    rw [show (x.put (some 129) v).eval (.tmp 127) = x.eval (.tmp 127) from ev_neZ (by decide)]
    exact E.v0 h
  case v1 =>
    intro h
    simp at h
    rw [show (x.put (some 129) v).eval (.tmp 128) = x.eval (.tmp 128) from ev_neZ (by decide)]
    exact E.v1 h
  case v2 =>
    intro _
    rw [ev_sameZ hsz]; exact hv
  case v3 =>
    intro h
    simp at h
    rw [show (x.put (some 129) v).eval (.tmp 130) = x.eval (.tmp 130) from ev_neZ (by decide)]
    exact E.v3 h
  case v4 =>
    intro h
    simp at h
    rw [show (x.put (some 129) v).eval (.tmp 131) = x.eval (.tmp 131) from ev_neZ (by decide)]
    exact E.v4 h
  case v5 =>
    intro h
    simp at h
    rw [show (x.put (some 129) v).eval (.tmp 126) = x.eval (.tmp 126) from ev_neZ (by decide)]
    exact E.v5 h
  case v6 =>
    intro h
    simp at h
    rw [show (x.put (some 129) v).eval (.tmp 132) = x.eval (.tmp 132) from ev_neZ (by decide)]
    exact E.v6 h
  case v7 =>
    intro h
    simp at h
    rw [show (x.put (some 129) v).eval (.tmp 133) = x.eval (.tmp 133) from ev_neZ (by decide)]
    exact E.v7 h
  case v10 =>
    intro h
    simp at h
    rw [show (x.put (some 129) v).eval (.tmp 22) = x.eval (.tmp 22) from ev_neZ (by decide)]
    exact E.v10 h
  case a8 =>
    intro h h'
    simp at h
    simp at h'
    rw [show (x.put (some 129) v).eval (.tmp 21) = x.eval (.tmp 21) from ev_neZ (by decide)]
    exact E.a8 h h'
  case f9 =>
    intro h
    simp at h
    rw [show (x.put (some 129) v).eval (.tmp 21) = x.eval (.tmp 21) from ev_neZ (by decide)]
    exact E.f9 h
theorem JJ.w3 {a0 x : Act} {W0 W : World} {D : Nat → Bool} (E : JJ a0 W0 tb la ll lc iv s0 s1 s2 s3 s5 n0 n1 n2 n3 n5 er s4 n4 V D x W) (hcl : ClsD jaOps D) (hD : D 3 = false) (hs0 : a0.tmps.size = 142) {v : Value} (hv : v = .bool V) :
    JJ a0 W0 tb la ll lc iv s0 s1 s2 s3 s5 n0 n1 n2 n3 n5 er s4 n4 V (fun k => decide (k = 3) || D k) (x.put (some 130) v) W := by
  have hsz : 130 < x.tmps.size := by rw [E.sz, hs0]; decide
  refine { sz := by rw [← E.sz]; simp [Act.put], df := E.df, ag := fun t h1 h2 h3 => (ev_neZ (by omega)).trans (E.ag t h1 h2 h3), lo := E.lo, v0 := ?v0, v1 := ?v1, v2 := ?v2, v3 := ?v3, v4 := ?v4, v5 := ?v5, v6 := ?v6, v7 := ?v7, v10 := ?v10, a8 := ?a8, f9 := ?f9 }
  case v0 =>
    intro h
    simp at h
    rw [show (x.put (some 130) v).eval (.tmp 127) = x.eval (.tmp 127) from ev_neZ (by decide)]
    exact E.v0 h
  case v1 =>
    intro h
    simp at h
    rw [show (x.put (some 130) v).eval (.tmp 128) = x.eval (.tmp 128) from ev_neZ (by decide)]
    exact E.v1 h
  case v2 =>
    intro h
    simp at h
    rw [show (x.put (some 130) v).eval (.tmp 129) = x.eval (.tmp 129) from ev_neZ (by decide)]
    exact E.v2 h
  case v3 =>
    intro _
    rw [ev_sameZ hsz]; exact hv
  case v4 =>
    intro h
    simp at h
    rw [show (x.put (some 130) v).eval (.tmp 131) = x.eval (.tmp 131) from ev_neZ (by decide)]
    exact E.v4 h
  case v5 =>
    intro h
    simp at h
    rw [show (x.put (some 130) v).eval (.tmp 126) = x.eval (.tmp 126) from ev_neZ (by decide)]
    exact E.v5 h
  case v6 =>
    intro h
    simp at h
    rw [show (x.put (some 130) v).eval (.tmp 132) = x.eval (.tmp 132) from ev_neZ (by decide)]
    exact E.v6 h
  case v7 =>
    intro h
    simp at h
    rw [show (x.put (some 130) v).eval (.tmp 133) = x.eval (.tmp 133) from ev_neZ (by decide)]
    exact E.v7 h
  case v10 =>
    intro h
    simp at h
    rw [show (x.put (some 130) v).eval (.tmp 22) = x.eval (.tmp 22) from ev_neZ (by decide)]
    exact E.v10 h
  case a8 =>
    intro h h'
    simp at h
    simp at h'
    rw [show (x.put (some 130) v).eval (.tmp 21) = x.eval (.tmp 21) from ev_neZ (by decide)]
    exact E.a8 h h'
  case f9 =>
    intro h
    simp at h
    rw [show (x.put (some 130) v).eval (.tmp 21) = x.eval (.tmp 21) from ev_neZ (by decide)]
    exact E.f9 h
theorem JJ.w4 {a0 x : Act} {W0 W : World} {D : Nat → Bool} (E : JJ a0 W0 tb la ll lc iv s0 s1 s2 s3 s5 n0 n1 n2 n3 n5 er s4 n4 V D x W) (hcl : ClsD jaOps D) (hD : D 4 = false) (hs0 : a0.tmps.size = 142) {v : Value} (hv : v = .tuple #[.agg #[.int .i64 n0, .int .i64 n1, .int .i64 n2, .int .i64 n3, .bool n4, .int .i64 n5], .int .i64 er]) :
    JJ a0 W0 tb la ll lc iv s0 s1 s2 s3 s5 n0 n1 n2 n3 n5 er s4 n4 V (fun k => decide (k = 4) || D k) (x.put (some 131) v) W := by
  have hsz : 131 < x.tmps.size := by rw [E.sz, hs0]; decide
  refine { sz := by rw [← E.sz]; simp [Act.put], df := E.df, ag := fun t h1 h2 h3 => (ev_neZ (by omega)).trans (E.ag t h1 h2 h3), lo := E.lo, v0 := ?v0, v1 := ?v1, v2 := ?v2, v3 := ?v3, v4 := ?v4, v5 := ?v5, v6 := ?v6, v7 := ?v7, v10 := ?v10, a8 := ?a8, f9 := ?f9 }
  case v0 =>
    intro h
    simp at h
    rw [show (x.put (some 131) v).eval (.tmp 127) = x.eval (.tmp 127) from ev_neZ (by decide)]
    exact E.v0 h
  case v1 =>
    intro h
    simp at h
    rw [show (x.put (some 131) v).eval (.tmp 128) = x.eval (.tmp 128) from ev_neZ (by decide)]
    exact E.v1 h
  case v2 =>
    intro h
    simp at h
    rw [show (x.put (some 131) v).eval (.tmp 129) = x.eval (.tmp 129) from ev_neZ (by decide)]
    exact E.v2 h
  case v3 =>
    intro h
    simp at h
    rw [show (x.put (some 131) v).eval (.tmp 130) = x.eval (.tmp 130) from ev_neZ (by decide)]
    exact E.v3 h
  case v4 =>
    intro _
    rw [ev_sameZ hsz]; exact hv
  case v5 =>
    intro h
    simp at h
    rw [show (x.put (some 131) v).eval (.tmp 126) = x.eval (.tmp 126) from ev_neZ (by decide)]
    exact E.v5 h
  case v6 =>
    intro h
    simp at h
    rw [show (x.put (some 131) v).eval (.tmp 132) = x.eval (.tmp 132) from ev_neZ (by decide)]
    exact E.v6 h
  case v7 =>
    intro h
    simp at h
    rw [show (x.put (some 131) v).eval (.tmp 133) = x.eval (.tmp 133) from ev_neZ (by decide)]
    exact E.v7 h
  case v10 =>
    intro h
    simp at h
    rw [show (x.put (some 131) v).eval (.tmp 22) = x.eval (.tmp 22) from ev_neZ (by decide)]
    exact E.v10 h
  case a8 =>
    intro h h'
    simp at h
    simp at h'
    rw [show (x.put (some 131) v).eval (.tmp 21) = x.eval (.tmp 21) from ev_neZ (by decide)]
    exact E.a8 h h'
  case f9 =>
    intro h
    simp at h
    rw [show (x.put (some 131) v).eval (.tmp 21) = x.eval (.tmp 21) from ev_neZ (by decide)]
    exact E.f9 h
theorem JJ.w5 {a0 x : Act} {W0 W : World} {D : Nat → Bool} (E : JJ a0 W0 tb la ll lc iv s0 s1 s2 s3 s5 n0 n1 n2 n3 n5 er s4 n4 V D x W) (hcl : ClsD jaOps D) (hD : D 5 = false) (hs0 : a0.tmps.size = 142) {v : Value} (hv : v = .tuple #[.agg #[.int .i64 n0, .int .i64 n1, .int .i64 n2, .int .i64 n3, .bool n4, .int .i64 n5], .int .i64 er]) :
    JJ a0 W0 tb la ll lc iv s0 s1 s2 s3 s5 n0 n1 n2 n3 n5 er s4 n4 V (fun k => decide (k = 5) || D k) (x.put (some 126) v) W := by
  have hsz : 126 < x.tmps.size := by rw [E.sz, hs0]; decide
  refine { sz := by rw [← E.sz]; simp [Act.put], df := E.df, ag := fun t h1 h2 h3 => (ev_neZ (by omega)).trans (E.ag t h1 h2 h3), lo := E.lo, v0 := ?v0, v1 := ?v1, v2 := ?v2, v3 := ?v3, v4 := ?v4, v5 := ?v5, v6 := ?v6, v7 := ?v7, v10 := ?v10, a8 := ?a8, f9 := ?f9 }
  case v0 =>
    intro h
    simp at h
    rw [show (x.put (some 126) v).eval (.tmp 127) = x.eval (.tmp 127) from ev_neZ (by decide)]
    exact E.v0 h
  case v1 =>
    intro h
    simp at h
    rw [show (x.put (some 126) v).eval (.tmp 128) = x.eval (.tmp 128) from ev_neZ (by decide)]
    exact E.v1 h
  case v2 =>
    intro h
    simp at h
    rw [show (x.put (some 126) v).eval (.tmp 129) = x.eval (.tmp 129) from ev_neZ (by decide)]
    exact E.v2 h
  case v3 =>
    intro h
    simp at h
    rw [show (x.put (some 126) v).eval (.tmp 130) = x.eval (.tmp 130) from ev_neZ (by decide)]
    exact E.v3 h
  case v4 =>
    intro h
    simp at h
    rw [show (x.put (some 126) v).eval (.tmp 131) = x.eval (.tmp 131) from ev_neZ (by decide)]
    exact E.v4 h
  case v5 =>
    intro _
    rw [ev_sameZ hsz]; exact hv
  case v6 =>
    intro h
    simp at h
    rw [show (x.put (some 126) v).eval (.tmp 132) = x.eval (.tmp 132) from ev_neZ (by decide)]
    exact E.v6 h
  case v7 =>
    intro h
    simp at h
    rw [show (x.put (some 126) v).eval (.tmp 133) = x.eval (.tmp 133) from ev_neZ (by decide)]
    exact E.v7 h
  case v10 =>
    intro h
    simp at h
    rw [show (x.put (some 126) v).eval (.tmp 22) = x.eval (.tmp 22) from ev_neZ (by decide)]
    exact E.v10 h
  case a8 =>
    intro h h'
    simp at h
    simp at h'
    rw [show (x.put (some 126) v).eval (.tmp 21) = x.eval (.tmp 21) from ev_neZ (by decide)]
    exact E.a8 h h'
  case f9 =>
    intro h
    simp at h
    rw [show (x.put (some 126) v).eval (.tmp 21) = x.eval (.tmp 21) from ev_neZ (by decide)]
    exact E.f9 h
theorem JJ.w6 {a0 x : Act} {W0 W : World} {D : Nat → Bool} (E : JJ a0 W0 tb la ll lc iv s0 s1 s2 s3 s5 n0 n1 n2 n3 n5 er s4 n4 V D x W) (hcl : ClsD jaOps D) (hD : D 6 = false) (hs0 : a0.tmps.size = 142) {v : Value} (hv : v = .agg #[.int .i64 n0, .int .i64 n1, .int .i64 n2, .int .i64 n3, .bool n4, .int .i64 n5]) :
    JJ a0 W0 tb la ll lc iv s0 s1 s2 s3 s5 n0 n1 n2 n3 n5 er s4 n4 V (fun k => decide (k = 6) || D k) (x.put (some 132) v) W := by
  have hsz : 132 < x.tmps.size := by rw [E.sz, hs0]; decide
  refine { sz := by rw [← E.sz]; simp [Act.put], df := E.df, ag := fun t h1 h2 h3 => (ev_neZ (by omega)).trans (E.ag t h1 h2 h3), lo := E.lo, v0 := ?v0, v1 := ?v1, v2 := ?v2, v3 := ?v3, v4 := ?v4, v5 := ?v5, v6 := ?v6, v7 := ?v7, v10 := ?v10, a8 := ?a8, f9 := ?f9 }
  case v0 =>
    intro h
    simp at h
    rw [show (x.put (some 132) v).eval (.tmp 127) = x.eval (.tmp 127) from ev_neZ (by decide)]
    exact E.v0 h
  case v1 =>
    intro h
    simp at h
    rw [show (x.put (some 132) v).eval (.tmp 128) = x.eval (.tmp 128) from ev_neZ (by decide)]
    exact E.v1 h
  case v2 =>
    intro h
    simp at h
    rw [show (x.put (some 132) v).eval (.tmp 129) = x.eval (.tmp 129) from ev_neZ (by decide)]
    exact E.v2 h
  case v3 =>
    intro h
    simp at h
    rw [show (x.put (some 132) v).eval (.tmp 130) = x.eval (.tmp 130) from ev_neZ (by decide)]
    exact E.v3 h
  case v4 =>
    intro h
    simp at h
    rw [show (x.put (some 132) v).eval (.tmp 131) = x.eval (.tmp 131) from ev_neZ (by decide)]
    exact E.v4 h
  case v5 =>
    intro h
    simp at h
    rw [show (x.put (some 132) v).eval (.tmp 126) = x.eval (.tmp 126) from ev_neZ (by decide)]
    exact E.v5 h
  case v6 =>
    intro _
    rw [ev_sameZ hsz]; exact hv
  case v7 =>
    intro h
    simp at h
    rw [show (x.put (some 132) v).eval (.tmp 133) = x.eval (.tmp 133) from ev_neZ (by decide)]
    exact E.v7 h
  case v10 =>
    intro h
    simp at h
    rw [show (x.put (some 132) v).eval (.tmp 22) = x.eval (.tmp 22) from ev_neZ (by decide)]
    exact E.v10 h
  case a8 =>
    intro h h'
    simp at h
    simp at h'
    rw [show (x.put (some 132) v).eval (.tmp 21) = x.eval (.tmp 21) from ev_neZ (by decide)]
    exact E.a8 h h'
  case f9 =>
    intro h
    simp at h
    rw [show (x.put (some 132) v).eval (.tmp 21) = x.eval (.tmp 21) from ev_neZ (by decide)]
    exact E.f9 h
theorem JJ.w7 {a0 x : Act} {W0 W : World} {D : Nat → Bool} (E : JJ a0 W0 tb la ll lc iv s0 s1 s2 s3 s5 n0 n1 n2 n3 n5 er s4 n4 V D x W) (hcl : ClsD jaOps D) (hD : D 7 = false) (hs0 : a0.tmps.size = 142) {v : Value} (hv : v = .int .i64 er) :
    JJ a0 W0 tb la ll lc iv s0 s1 s2 s3 s5 n0 n1 n2 n3 n5 er s4 n4 V (fun k => decide (k = 7) || D k) (x.put (some 133) v) W := by
  have hsz : 133 < x.tmps.size := by rw [E.sz, hs0]; decide
  refine { sz := by rw [← E.sz]; simp [Act.put], df := E.df, ag := fun t h1 h2 h3 => (ev_neZ (by omega)).trans (E.ag t h1 h2 h3), lo := E.lo, v0 := ?v0, v1 := ?v1, v2 := ?v2, v3 := ?v3, v4 := ?v4, v5 := ?v5, v6 := ?v6, v7 := ?v7, v10 := ?v10, a8 := ?a8, f9 := ?f9 }
  case v0 =>
    intro h
    simp at h
    rw [show (x.put (some 133) v).eval (.tmp 127) = x.eval (.tmp 127) from ev_neZ (by decide)]
    exact E.v0 h
  case v1 =>
    intro h
    simp at h
    rw [show (x.put (some 133) v).eval (.tmp 128) = x.eval (.tmp 128) from ev_neZ (by decide)]
    exact E.v1 h
  case v2 =>
    intro h
    simp at h
    rw [show (x.put (some 133) v).eval (.tmp 129) = x.eval (.tmp 129) from ev_neZ (by decide)]
    exact E.v2 h
  case v3 =>
    intro h
    simp at h
    rw [show (x.put (some 133) v).eval (.tmp 130) = x.eval (.tmp 130) from ev_neZ (by decide)]
    exact E.v3 h
  case v4 =>
    intro h
    simp at h
    rw [show (x.put (some 133) v).eval (.tmp 131) = x.eval (.tmp 131) from ev_neZ (by decide)]
    exact E.v4 h
  case v5 =>
    intro h
    simp at h
    rw [show (x.put (some 133) v).eval (.tmp 126) = x.eval (.tmp 126) from ev_neZ (by decide)]
    exact E.v5 h
  case v6 =>
    intro h
    simp at h
    rw [show (x.put (some 133) v).eval (.tmp 132) = x.eval (.tmp 132) from ev_neZ (by decide)]
    exact E.v6 h
  case v7 =>
    intro _
    rw [ev_sameZ hsz]; exact hv
  case v10 =>
    intro h
    simp at h
    rw [show (x.put (some 133) v).eval (.tmp 22) = x.eval (.tmp 22) from ev_neZ (by decide)]
    exact E.v10 h
  case a8 =>
    intro h h'
    simp at h
    simp at h'
    rw [show (x.put (some 133) v).eval (.tmp 21) = x.eval (.tmp 21) from ev_neZ (by decide)]
    exact E.a8 h h'
  case f9 =>
    intro h
    simp at h
    rw [show (x.put (some 133) v).eval (.tmp 21) = x.eval (.tmp 21) from ev_neZ (by decide)]
    exact E.f9 h
theorem JJ.w10 {a0 x : Act} {W0 W : World} {D : Nat → Bool} (E : JJ a0 W0 tb la ll lc iv s0 s1 s2 s3 s5 n0 n1 n2 n3 n5 er s4 n4 V D x W) (hcl : ClsD jaOps D) (hD : D 10 = false) (hs0 : a0.tmps.size = 142) {v : Value} (hv : v = .int .i64 er) :
    JJ a0 W0 tb la ll lc iv s0 s1 s2 s3 s5 n0 n1 n2 n3 n5 er s4 n4 V (fun k => decide (k = 10) || D k) (x.put (some 22) v) W := by
  have hsz : 22 < x.tmps.size := by rw [E.sz, hs0]; decide
  refine { sz := by rw [← E.sz]; simp [Act.put], df := E.df, ag := fun t h1 h2 h3 => (ev_neZ (by omega)).trans (E.ag t h1 h2 h3), lo := E.lo, v0 := ?v0, v1 := ?v1, v2 := ?v2, v3 := ?v3, v4 := ?v4, v5 := ?v5, v6 := ?v6, v7 := ?v7, v10 := ?v10, a8 := ?a8, f9 := ?f9 }
  case v0 =>
    intro h
    simp at h
    rw [show (x.put (some 22) v).eval (.tmp 127) = x.eval (.tmp 127) from ev_neZ (by decide)]
    exact E.v0 h
  case v1 =>
    intro h
    simp at h
    rw [show (x.put (some 22) v).eval (.tmp 128) = x.eval (.tmp 128) from ev_neZ (by decide)]
    exact E.v1 h
  case v2 =>
    intro h
    simp at h
    rw [show (x.put (some 22) v).eval (.tmp 129) = x.eval (.tmp 129) from ev_neZ (by decide)]
    exact E.v2 h
  case v3 =>
    intro h
    simp at h
    rw [show (x.put (some 22) v).eval (.tmp 130) = x.eval (.tmp 130) from ev_neZ (by decide)]
    exact E.v3 h
  case v4 =>
    intro h
    simp at h
    rw [show (x.put (some 22) v).eval (.tmp 131) = x.eval (.tmp 131) from ev_neZ (by decide)]
    exact E.v4 h
  case v5 =>
    intro h
    simp at h
    rw [show (x.put (some 22) v).eval (.tmp 126) = x.eval (.tmp 126) from ev_neZ (by decide)]
    exact E.v5 h
  case v6 =>
    intro h
    simp at h
    rw [show (x.put (some 22) v).eval (.tmp 132) = x.eval (.tmp 132) from ev_neZ (by decide)]
    exact E.v6 h
  case v7 =>
    intro h
    simp at h
    rw [show (x.put (some 22) v).eval (.tmp 133) = x.eval (.tmp 133) from ev_neZ (by decide)]
    exact E.v7 h
  case v10 =>
    intro _
    rw [ev_sameZ hsz]; exact hv
  case a8 =>
    intro h h'
    simp at h
    simp at h'
    rw [show (x.put (some 22) v).eval (.tmp 21) = x.eval (.tmp 21) from ev_neZ (by decide)]
    exact E.a8 h h'
  case f9 =>
    intro h
    simp at h
    rw [show (x.put (some 22) v).eval (.tmp 21) = x.eval (.tmp 21) from ev_neZ (by decide)]
    exact E.f9 h
theorem JJ.w8 {a0 x : Act} {W0 W : World} {D : Nat → Bool} (E : JJ a0 W0 tb la ll lc iv s0 s1 s2 s3 s5 n0 n1 n2 n3 n5 er s4 n4 V D x W) (hcl : ClsD jaOps D) (hD : D 8 = false) (hs0 : a0.tmps.size = 142) {v : Value} (hv : v = .pointer (some ⟨W.heap.size, 0, none⟩)) :
    JJ a0 W0 tb la ll lc iv s0 s1 s2 s3 s5 n0 n1 n2 n3 n5 er s4 n4 V (fun k => decide (k = 8) || D k) (x.put (some 21) v) (W.alloc (.cells #[.int .i64 0, .int .i64 0, .int .i64 0, .int .i64 0, .bool false, .int .i64 0] 28)) := by
  have hb := ballo W (.cells #[.int .i64 0, .int .i64 0, .int .i64 0, .int .i64 0, .bool false, .int .i64 0] 28)
  have G := E.grow hb
  have hsz : 21 < x.tmps.size := by rw [E.sz, hs0]; decide
  refine { sz := by rw [← E.sz]; simp [Act.put], df := E.df, ag := fun t h1 h2 h3 => (ev_neZ (by omega)).trans (E.ag t h1 h2 h3), lo := G.lo, v0 := ?v0, v1 := ?v1, v2 := ?v2, v3 := ?v3, v4 := ?v4, v5 := ?v5, v6 := ?v6, v7 := ?v7, v10 := ?v10, a8 := ?a8, f9 := ?f9 }
  case v0 =>
    intro h
    simp at h
    rw [show (x.put (some 21) v).eval (.tmp 127) = x.eval (.tmp 127) from ev_neZ (by decide)]
    exact G.v0 h
  case v1 =>
    intro h
    simp at h
    rw [show (x.put (some 21) v).eval (.tmp 128) = x.eval (.tmp 128) from ev_neZ (by decide)]
    exact G.v1 h
  case v2 =>
    intro h
    simp at h
    rw [show (x.put (some 21) v).eval (.tmp 129) = x.eval (.tmp 129) from ev_neZ (by decide)]
    exact G.v2 h
  case v3 =>
    intro h
    simp at h
    rw [show (x.put (some 21) v).eval (.tmp 130) = x.eval (.tmp 130) from ev_neZ (by decide)]
    exact G.v3 h
  case v4 =>
    intro h
    simp at h
    rw [show (x.put (some 21) v).eval (.tmp 131) = x.eval (.tmp 131) from ev_neZ (by decide)]
    exact G.v4 h
  case v5 =>
    intro h
    simp at h
    rw [show (x.put (some 21) v).eval (.tmp 126) = x.eval (.tmp 126) from ev_neZ (by decide)]
    exact G.v5 h
  case v6 =>
    intro h
    simp at h
    rw [show (x.put (some 21) v).eval (.tmp 132) = x.eval (.tmp 132) from ev_neZ (by decide)]
    exact G.v6 h
  case v7 =>
    intro h
    simp at h
    rw [show (x.put (some 21) v).eval (.tmp 133) = x.eval (.tmp 133) from ev_neZ (by decide)]
    exact G.v7 h
  case v10 =>
    intro h
    simp at h
    rw [show (x.put (some 21) v).eval (.tmp 22) = x.eval (.tmp 22) from ev_neZ (by decide)]
    exact G.v10 h
  case a8 =>
    intro _ _
    rw [ev_sameZ hsz]; exact ⟨_, hv, E.lo.size, Bk.new W _ _⟩
  case f9 =>
    intro h
    simp at h
    exact absurd (hcl 9 ja9 rfl h ⟨8, .data⟩ (by simp [ja9]) rfl) (by rw [hD]; decide)
theorem JJ.w9 {a0 x : Act} {W0 W : World} {D : Nat → Bool} (E : JJ a0 W0 tb la ll lc iv s0 s1 s2 s3 s5 n0 n1 n2 n3 n5 er s4 n4 V D x W) (hcl : ClsD jaOps D) (hD : D 9 = false) (hs0 : a0.tmps.size = 142) {v : Value} {nb : Nat} (h0 : x.eval (.tmp 21) = .pointer (some ⟨nb, 0, none⟩)) (h1 : W0.heap.size ≤ nb) (h2 : Bk W nb [.int .i64 0, .int .i64 0, .int .i64 0, .int .i64 0, .bool false, .int .i64 0] 28) :
    JJ a0 W0 tb la ll lc iv s0 s1 s2 s3 s5 n0 n1 n2 n3 n5 er s4 n4 V (fun k => decide (k = 9) || D k) (x) ((((((W.setCell ⟨nb, 0, none⟩ (.int .i64 n0)).setCell ⟨nb, 1, none⟩ (.int .i64 n1)).setCell ⟨nb, 2, none⟩ (.int .i64 n2)).setCell ⟨nb, 3, none⟩ (.int .i64 n3)).setCell ⟨nb, 4, none⟩ (.bool n4)).setCell ⟨nb, 5, none⟩ (.int .i64 n5)) := by
  refine { sz := E.sz, df := E.df, ag := fun t h1 h2 h3 => E.ag t h1 h2 h3, lo := six_belowS E.lo h1 _ _ _ _ _ _, v0 := ?v0, v1 := ?v1, v2 := ?v2, v3 := ?v3, v4 := ?v4, v5 := ?v5, v6 := ?v6, v7 := ?v7, v10 := ?v10, a8 := ?a8, f9 := ?f9 }
  case v0 =>
    intro h
    simp at h
    exact E.v0 h
  case v1 =>
    intro h
    simp at h
    exact E.v1 h
  case v2 =>
    intro h
    simp at h
    exact E.v2 h
  case v3 =>
    intro h
    simp at h
    exact E.v3 h
  case v4 =>
    intro h
    simp at h
    exact E.v4 h
  case v5 =>
    intro h
    simp at h
    exact E.v5 h
  case v6 =>
    intro h
    simp at h
    exact E.v6 h
  case v7 =>
    intro h
    simp at h
    exact E.v7 h
  case v10 =>
    intro h
    simp at h
    exact E.v10 h
  case a8 =>
    intro h h'
    simp at h'
  case f9 =>
    intro _
    exact ⟨nb, h0, h1, h2.six _ _ _ _ _ _⟩
end
theorem ja_dep : ∀ i o, jaOps[i]? = some o → o.guard = none ∧ ∀ e ∈ o.after, Region.binds .any e = true → e.on < i := by
  intro i o ho
  have hi : i < 11 := (Array.getElem?_eq_some_iff.1 ho).1
  rcases (by omega : i = 0 ∨ i = 1 ∨ i = 2 ∨ i = 3 ∨ i = 4 ∨ i = 5 ∨ i = 6 ∨ i = 7 ∨ i = 8 ∨ i = 9 ∨ i = 10) with rfl | rfl | rfl | rfl | rfl | rfl | rfl | rfl | rfl | rfl | rfl <;> (cases ho; refine ⟨rfl, fun e he hb => ?_⟩; revert hb; revert e; decide)
set_option maxRecDepth 100000 in
set_option maxHeartbeats 8000000 in
theorem ja_core {Q : Exit → Act → World → Prop} (W : World) (tb : Nat) (la : Option Addr) (ll lc : Nat) (iv s0 s1 s2 s3 s5 n0 n1 n2 n3 n5 er : Int) (s4 n4 V : Bool) (a0 : Act) (hs0 : a0.tmps.size = 142) (eY2 : a0.eval (.tmp 2) = .slice la ll lc) (eY9 : a0.eval (.tmp 9) = .pointer (some ⟨tb, 0, none⟩)) (eY11 : a0.eval (.tmp 11) = .int .i64 iv)
    (htk : Bk W tb [.int .i64 s0, .int .i64 s1, .int .i64 s2, .int .i64 s3, .bool s4, .int .i64 s5] 28)
    (ht : ∀ X, Below W.heap.size W X → Calls Try.prog 17 #[.slice la ll lc, .int .i64 iv] X fun e w' => e = .returned (.bool V) ∧ w' = X)
    (hp : ∀ X, Below W.heap.size W X → Calls Try.prog 18 #[.agg #[.int .i64 s0, .int .i64 s1, .int .i64 s2, .int .i64 s3, .bool s4, .int .i64 s5], .bool V] X fun e w' => Below X.heap.size X w' ∧ e = .returned (.tuple #[.agg #[.int .i64 n0, .int .i64 n1, .int .i64 n2, .int .i64 n3, .bool n4, .int .i64 n5], .int .i64 er]))
    (fin : ∀ a X, JJ a0 W tb la ll lc iv s0 s1 s2 s3 s5 n0 n1 n2 n3 n5 er s4 n4 V (fun k => decide (k < 11)) a X → Q .normal a X) :
    (Code.region 19 jaOps true).wp Try.prog Q a0 W := by
  refine wp_region_inv (by kernel_rfl) a0 W 11 rfl (JJ a0 W tb la ll lc iv s0 s1 s2 s3 s5 n0 n1 n2 n3 n5 er s4 n4 V) ja_dep ?_ ?_ ?_
  · exact { sz := rfl, df := rfl, ag := fun _ _ _ _ => rfl, lo := Below.drew (Below.refl _ _), v0 := (fun h => by cases h), v1 := (fun h => by cases h), v2 := (fun h => by cases h), v3 := (fun h => by cases h), v4 := (fun h => by cases h), v5 := (fun h => by cases h), v6 := (fun h => by cases h), v7 := (fun h => by cases h), v10 := (fun h => by cases h), a8 := (fun h => by cases h), f9 := (fun h => by cases h) }
  · intro j o ho D x X hcl hD haft E
    have hj : j < 11 := (Array.getElem?_eq_some_iff.1 ho).1
    have r := Below.refl X.heap.size X
    have bl := E.lo
    have fY2 : x.eval (.tmp 2) = .slice la ll lc := (E.ag 2 (by omega) (by omega) (by omega)).trans eY2
    have fY9 : x.eval (.tmp 9) = .pointer (some ⟨tb, 0, none⟩) := (E.ag 9 (by omega) (by omega) (by omega)).trans eY9
    have fY11 : x.eval (.tmp 11) = .int .i64 iv := (E.ag 11 (by omega) (by omega) (by omega)).trans eY11
    clear fin
    rcases (by omega : j = 0 ∨ j = 1 ∨ j = 2 ∨ j = 3 ∨ j = 4 ∨ j = 5 ∨ j = 6 ∨ j = 7 ∨ j = 8 ∨ j = 9 ∨ j = 10) with rfl | rfl | rfl | rfl | rfl | rfl | rfl | rfl | rfl | rfl | rfl
    · obtain rfl : ja0 = o := Option.some.inj ho
      exact wp_valueZ (v := .agg #[.int .i64 s0, .int .i64 s1, .int .i64 s2, .int .i64 s3, .bool s4, .int .i64 s5]) (w' := X) (by simp [execOp, ja0, fY9, jld6 (htk.below bl)]) (E.w0 hcl hD hs0 rfl)
    · obtain rfl : ja1 = o := Option.some.inj ho
      exact wp_valueZ (v := .slice la ll lc) (w' := X) (by simp [execOp, ja1, fY2]) (E.w1 hcl hD hs0 rfl)
    · obtain rfl : ja2 = o := Option.some.inj ho
      exact wp_valueZ (v := .int .i64 iv) (w' := X) (by simp [execOp, ja2, fY11]) (E.w2 hcl hD hs0 rfl)
    · obtain rfl : ja3 = o := Option.some.inj ho
      have d1 := E.v1 (haft ⟨1, .data⟩ (by simp [ja3]) rfl)
      have d2 := E.v2 (haft ⟨2, .data⟩ (by simp [ja3]) rfl)
      refine wp_enterZ (run_call2Z rfl (enters_of Try.func17 (by kernel_rfl) rfl) d1 d2) (ht X bl) ?_
      rintro e X' ⟨rfl, hX⟩
      subst hX
      exact ⟨_, rfl, E.w3 hcl hD hs0 rfl⟩
    · obtain rfl : ja4 = o := Option.some.inj ho
      have d0 := E.v0 (haft ⟨0, .data⟩ (by simp [ja4]) rfl)
      have d3 := E.v3 (haft ⟨3, .data⟩ (by simp [ja4]) rfl)
      refine wp_enterZ (run_call2Z rfl (enters_of Try.func18 (by kernel_rfl) rfl) d0 d3) (hp X bl) ?_
      rintro e X' ⟨hb, rfl⟩
      exact ⟨_, rfl, (E.grow hb).w4 hcl hD hs0 rfl⟩
    · obtain rfl : ja5 = o := Option.some.inj ho
      have d4 := E.v4 (haft ⟨4, .data⟩ (by simp [ja5]) rfl)
      exact wp_valueZ (v := .tuple #[.agg #[.int .i64 n0, .int .i64 n1, .int .i64 n2, .int .i64 n3, .bool n4, .int .i64 n5], .int .i64 er]) (w' := X) (by simp [execOp, ja5, d4]) (E.w5 hcl hD hs0 rfl)
    · obtain rfl : ja6 = o := Option.some.inj ho
      have d5 := E.v5 (haft ⟨5, .data⟩ (by simp [ja6]) rfl)
      exact wp_valueZ (v := .agg #[.int .i64 n0, .int .i64 n1, .int .i64 n2, .int .i64 n3, .bool n4, .int .i64 n5]) (w' := X) (by simp [execOp, ja6, d5]; go_simp) (E.w6 hcl hD hs0 rfl)
    · obtain rfl : ja7 = o := Option.some.inj ho
      have d5 := E.v5 (haft ⟨5, .data⟩ (by simp [ja7]) rfl)
      exact wp_valueZ (v := .int .i64 er) (w' := X) (by simp [execOp, ja7, d5]; go_simp) (E.w7 hcl hD hs0 rfl)
    · obtain rfl : ja8 = o := Option.some.inj ho
      exact wp_valueZ (v := .pointer (some ⟨X.heap.size, 0, none⟩)) (w' := X.alloc (.cells #[.int .i64 0, .int .i64 0, .int .i64 0, .int .i64 0, .bool false, .int .i64 0] 28)) (by simp [execOp, ja8, jal6]) (E.w8 hcl hD hs0 rfl)
    · obtain rfl : ja9 = o := Option.some.inj ho
      have d6 := E.v6 (haft ⟨6, .data⟩ (by simp [ja9]) rfl)
      obtain ⟨nb, d2, h1, h2⟩ := E.a8 (haft ⟨8, .data⟩ (by simp [ja9]) rfl) hD
      have hrun := jst6 h2 n0 n1 n2 n3 n5 n4
      have hpost := E.w9 (v := undef) hcl hD hs0 d2 h1 h2
      unfold Oper.wp
      have e : (execOp x.eval ja9).run Try.prog X = .ok .skip ((((((X.setCell ⟨nb, 0, none⟩ (.int .i64 n0)).setCell ⟨nb, 1, none⟩ (.int .i64 n1)).setCell ⟨nb, 2, none⟩ (.int .i64 n2)).setCell ⟨nb, 3, none⟩ (.int .i64 n3)).setCell ⟨nb, 4, none⟩ (.bool n4)).setCell ⟨nb, 5, none⟩ (.int .i64 n5)) := by
        simp [execOp, ja9, d6, d2, hrun]
      rw [e]
      exact hpost
    · obtain rfl : ja10 = o := Option.some.inj ho
      have d7 := E.v7 (haft ⟨7, .data⟩ (by simp [ja10]) rfl)
      exact wp_valueZ (v := .int .i64 er) (w' := X) (by simp [execOp, ja10, d7]) (E.w10 hcl hD hs0 rfl)
  · intro D a X hall E
    exact fin a X { sz := E.sz, df := E.df, ag := E.ag, lo := E.lo, v0 := (fun _ => E.v0 (hall 0 (by decide))), v1 := (fun _ => E.v1 (hall 1 (by decide))), v2 := (fun _ => E.v2 (hall 2 (by decide))), v3 := (fun _ => E.v3 (hall 3 (by decide))), v4 := (fun _ => E.v4 (hall 4 (by decide))), v5 := (fun _ => E.v5 (hall 5 (by decide))), v6 := (fun _ => E.v6 (hall 6 (by decide))), v7 := (fun _ => E.v7 (hall 7 (by decide))), v10 := (fun _ => E.v10 (hall 10 (by decide))), a8 := (fun h h' => by cases h'), f9 := (fun _ => E.f9 (hall 9 (by decide))) }
set_option maxRecDepth 100000 in
set_option maxHeartbeats 8000000 in
theorem ja_region {Q : Exit → Act → World → Prop} (W : World) (tb : Nat) (la : Option Addr) (ll lc : Nat) (iv s0 s1 s2 s3 s5 n0 n1 n2 n3 n5 er : Int) (s4 n4 V : Bool) (ds : List Deferred) (t0 t1 t3 t4 t5 t6 t7 t8 t10 t12 t13 t14 t15 t16 t17 t18 t19 t20 t21 t22 t23 t24 t25 t26 t27 t28 t29 t30 t31 t32 t33 t34 t35 t36 t37 t38 t39 t40 t41 t42 t43 t44 t45 t46 t47 t48 t49 t50 t51 t52 t53 t54 t55 t56 t57 t58 t59 t60 t61 t62 t63 t64 t65 t66 t67 t68 t69 t70 t71 t72 t73 t74 t75 t76 t77 t78 t79 t80 t81 t82 t83 t84 t85 t86 t87 t88 t89 t90 t91 t92 t93 t94 t95 t96 t97 t98 t99 t100 t101 t102 t103 t104 t105 t106 t107 t108 t109 t110 t111 t112 t113 t114 t115 t116 t117 t118 t119 t120 t121 t122 t123 t124 t125 t126 t127 t128 t129 t130 t131 t132 t133 t134 t135 t136 t137 t138 t139 t140 t141 : Value)
    (htk : Bk W tb [.int .i64 s0, .int .i64 s1, .int .i64 s2, .int .i64 s3, .bool s4, .int .i64 s5] 28)
    (ht : ∀ X, Below W.heap.size W X → Calls Try.prog 17 #[.slice la ll lc, .int .i64 iv] X fun e w' => e = .returned (.bool V) ∧ w' = X)
    (hp : ∀ X, Below W.heap.size W X → Calls Try.prog 18 #[.agg #[.int .i64 s0, .int .i64 s1, .int .i64 s2, .int .i64 s3, .bool s4, .int .i64 s5], .bool V] X fun e w' => Below X.heap.size X w' ∧ e = .returned (.tuple #[.agg #[.int .i64 n0, .int .i64 n1, .int .i64 n2, .int .i64 n3, .bool n4, .int .i64 n5], .int .i64 er]))
    (fin : ∀ X (u126 u127 u128 u129 u130 u131 u132 u133 : Value) nb, Below W.heap.size W X → W.heap.size ≤ nb → Bk X nb [.int .i64 n0, .int .i64 n1, .int .i64 n2, .int .i64 n3, .bool n4, .int .i64 n5] 28 → Q .normal ⟨#[t0, t1, .slice la ll lc, t3, t4, t5, t6, t7, t8, .pointer (some ⟨tb, 0, none⟩), t10, .int .i64 iv, t12, t13, t14, t15, t16, t17, t18, t19, t20, .pointer (some ⟨nb, 0, none⟩), .int .i64 er, t23, t24, t25, t26, t27, t28, t29, t30, t31, t32, t33, t34, t35, t36, t37, t38, t39, t40, t41, t42, t43, t44, t45, t46, t47, t48, t49, t50, t51, t52, t53, t54, t55, t56, t57, t58, t59, t60, t61, t62, t63, t64, t65, t66, t67, t68, t69, t70, t71, t72, t73, t74, t75, t76, t77, t78, t79, t80, t81, t82, t83, t84, t85, t86, t87, t88, t89, t90, t91, t92, t93, t94, t95, t96, t97, t98, t99, t100, t101, t102, t103, t104, t105, t106, t107, t108, t109, t110, t111, t112, t113, t114, t115, t116, t117, t118, t119, t120, t121, t122, t123, t124, t125, u126, u127, u128, u129, u130, u131, u132, u133, t134, t135, t136, t137, t138, t139, t140, t141], ds⟩ X) :
    (Code.region 19 jaOps true).wp Try.prog Q ⟨#[t0, t1, .slice la ll lc, t3, t4, t5, t6, t7, t8, .pointer (some ⟨tb, 0, none⟩), t10, .int .i64 iv, t12, t13, t14, t15, t16, t17, t18, t19, t20, t21, t22, t23, t24, t25, t26, t27, t28, t29, t30, t31, t32, t33, t34, t35, t36, t37, t38, t39, t40, t41, t42, t43, t44, t45, t46, t47, t48, t49, t50, t51, t52, t53, t54, t55, t56, t57, t58, t59, t60, t61, t62, t63, t64, t65, t66, t67, t68, t69, t70, t71, t72, t73, t74, t75, t76, t77, t78, t79, t80, t81, t82, t83, t84, t85, t86, t87, t88, t89, t90, t91, t92, t93, t94, t95, t96, t97, t98, t99, t100, t101, t102, t103, t104, t105, t106, t107, t108, t109, t110, t111, t112, t113, t114, t115, t116, t117, t118, t119, t120, t121, t122, t123, t124, t125, t126, t127, t128, t129, t130, t131, t132, t133, t134, t135, t136, t137, t138, t139, t140, t141], ds⟩ W := by
  obtain ⟨a0, ha0⟩ : ∃ a0 : Act, a0 = ⟨#[t0, t1, .slice la ll lc, t3, t4, t5, t6, t7, t8, .pointer (some ⟨tb, 0, none⟩), t10, .int .i64 iv, t12, t13, t14, t15, t16, t17, t18, t19, t20, t21, t22, t23, t24, t25, t26, t27, t28, t29, t30, t31, t32, t33, t34, t35, t36, t37, t38, t39, t40, t41, t42, t43, t44, t45, t46, t47, t48, t49, t50, t51, t52, t53, t54, t55, t56, t57, t58, t59, t60, t61, t62, t63, t64, t65, t66, t67, t68, t69, t70, t71, t72, t73, t74, t75, t76, t77, t78, t79, t80, t81, t82, t83, t84, t85, t86, t87, t88, t89, t90, t91, t92, t93, t94, t95, t96, t97, t98, t99, t100, t101, t102, t103, t104, t105, t106, t107, t108, t109, t110, t111, t112, t113, t114, t115, t116, t117, t118, t119, t120, t121, t122, t123, t124, t125, t126, t127, t128, t129, t130, t131, t132, t133, t134, t135, t136, t137, t138, t139, t140, t141], ds⟩ := ⟨_, rfl⟩
  have hs0 : a0.tmps.size = 142 := by rw [ha0]; rfl
  have hd0 : a0.defers = ds := by rw [ha0]
  have gY0 : a0.eval (.tmp 0) = t0 := by rw [ha0]; rfl
  have gY1 : a0.eval (.tmp 1) = t1 := by rw [ha0]; rfl
  have gY2 : a0.eval (.tmp 2) = .slice la ll lc := by rw [ha0]; rfl
  have gY3 : a0.eval (.tmp 3) = t3 := by rw [ha0]; rfl
  have gY4 : a0.eval (.tmp 4) = t4 := by rw [ha0]; rfl
  have gY5 : a0.eval (.tmp 5) = t5 := by rw [ha0]; rfl
  have gY6 : a0.eval (.tmp 6) = t6 := by rw [ha0]; rfl
  have gY7 : a0.eval (.tmp 7) = t7 := by rw [ha0]; rfl
  have gY8 : a0.eval (.tmp 8) = t8 := by rw [ha0]; rfl
  have gY9 : a0.eval (.tmp 9) = .pointer (some ⟨tb, 0, none⟩) := by rw [ha0]; rfl
  have gY10 : a0.eval (.tmp 10) = t10 := by rw [ha0]; rfl
  have gY11 : a0.eval (.tmp 11) = .int .i64 iv := by rw [ha0]; rfl
  have gY12 : a0.eval (.tmp 12) = t12 := by rw [ha0]; rfl
  have gY13 : a0.eval (.tmp 13) = t13 := by rw [ha0]; rfl
  have gY14 : a0.eval (.tmp 14) = t14 := by rw [ha0]; rfl
  have gY15 : a0.eval (.tmp 15) = t15 := by rw [ha0]; rfl
  have gY16 : a0.eval (.tmp 16) = t16 := by rw [ha0]; rfl
  have gY17 : a0.eval (.tmp 17) = t17 := by rw [ha0]; rfl
  have gY18 : a0.eval (.tmp 18) = t18 := by rw [ha0]; rfl
  have gY19 : a0.eval (.tmp 19) = t19 := by rw [ha0]; rfl
  have gY20 : a0.eval (.tmp 20) = t20 := by rw [ha0]; rfl
  have gY23 : a0.eval (.tmp 23) = t23 := by rw [ha0]; rfl
  have gY24 : a0.eval (.tmp 24) = t24 := by rw [ha0]; rfl
  have gY25 : a0.eval (.tmp 25) = t25 := by rw [ha0]; rfl
  have gY26 : a0.eval (.tmp 26) = t26 := by rw [ha0]; rfl
  have gY27 : a0.eval (.tmp 27) = t27 := by rw [ha0]; rfl
  have gY28 : a0.eval (.tmp 28) = t28 := by rw [ha0]; rfl
  have gY29 : a0.eval (.tmp 29) = t29 := by rw [ha0]; rfl
  have gY30 : a0.eval (.tmp 30) = t30 := by rw [ha0]; rfl
  have gY31 : a0.eval (.tmp 31) = t31 := by rw [ha0]; rfl
  have gY32 : a0.eval (.tmp 32) = t32 := by rw [ha0]; rfl
  have gY33 : a0.eval (.tmp 33) = t33 := by rw [ha0]; rfl
  have gY34 : a0.eval (.tmp 34) = t34 := by rw [ha0]; rfl
  have gY35 : a0.eval (.tmp 35) = t35 := by rw [ha0]; rfl
  have gY36 : a0.eval (.tmp 36) = t36 := by rw [ha0]; rfl
  have gY37 : a0.eval (.tmp 37) = t37 := by rw [ha0]; rfl
  have gY38 : a0.eval (.tmp 38) = t38 := by rw [ha0]; rfl
  have gY39 : a0.eval (.tmp 39) = t39 := by rw [ha0]; rfl
  have gY40 : a0.eval (.tmp 40) = t40 := by rw [ha0]; rfl
  have gY41 : a0.eval (.tmp 41) = t41 := by rw [ha0]; rfl
  have gY42 : a0.eval (.tmp 42) = t42 := by rw [ha0]; rfl
  have gY43 : a0.eval (.tmp 43) = t43 := by rw [ha0]; rfl
  have gY44 : a0.eval (.tmp 44) = t44 := by rw [ha0]; rfl
  have gY45 : a0.eval (.tmp 45) = t45 := by rw [ha0]; rfl
  have gY46 : a0.eval (.tmp 46) = t46 := by rw [ha0]; rfl
  have gY47 : a0.eval (.tmp 47) = t47 := by rw [ha0]; rfl
  have gY48 : a0.eval (.tmp 48) = t48 := by rw [ha0]; rfl
  have gY49 : a0.eval (.tmp 49) = t49 := by rw [ha0]; rfl
  have gY50 : a0.eval (.tmp 50) = t50 := by rw [ha0]; rfl
  have gY51 : a0.eval (.tmp 51) = t51 := by rw [ha0]; rfl
  have gY52 : a0.eval (.tmp 52) = t52 := by rw [ha0]; rfl
  have gY53 : a0.eval (.tmp 53) = t53 := by rw [ha0]; rfl
  have gY54 : a0.eval (.tmp 54) = t54 := by rw [ha0]; rfl
  have gY55 : a0.eval (.tmp 55) = t55 := by rw [ha0]; rfl
  have gY56 : a0.eval (.tmp 56) = t56 := by rw [ha0]; rfl
  have gY57 : a0.eval (.tmp 57) = t57 := by rw [ha0]; rfl
  have gY58 : a0.eval (.tmp 58) = t58 := by rw [ha0]; rfl
  have gY59 : a0.eval (.tmp 59) = t59 := by rw [ha0]; rfl
  have gY60 : a0.eval (.tmp 60) = t60 := by rw [ha0]; rfl
  have gY61 : a0.eval (.tmp 61) = t61 := by rw [ha0]; rfl
  have gY62 : a0.eval (.tmp 62) = t62 := by rw [ha0]; rfl
  have gY63 : a0.eval (.tmp 63) = t63 := by rw [ha0]; rfl
  have gY64 : a0.eval (.tmp 64) = t64 := by rw [ha0]; rfl
  have gY65 : a0.eval (.tmp 65) = t65 := by rw [ha0]; rfl
  have gY66 : a0.eval (.tmp 66) = t66 := by rw [ha0]; rfl
  have gY67 : a0.eval (.tmp 67) = t67 := by rw [ha0]; rfl
  have gY68 : a0.eval (.tmp 68) = t68 := by rw [ha0]; rfl
  have gY69 : a0.eval (.tmp 69) = t69 := by rw [ha0]; rfl
  have gY70 : a0.eval (.tmp 70) = t70 := by rw [ha0]; rfl
  have gY71 : a0.eval (.tmp 71) = t71 := by rw [ha0]; rfl
  have gY72 : a0.eval (.tmp 72) = t72 := by rw [ha0]; rfl
  have gY73 : a0.eval (.tmp 73) = t73 := by rw [ha0]; rfl
  have gY74 : a0.eval (.tmp 74) = t74 := by rw [ha0]; rfl
  have gY75 : a0.eval (.tmp 75) = t75 := by rw [ha0]; rfl
  have gY76 : a0.eval (.tmp 76) = t76 := by rw [ha0]; rfl
  have gY77 : a0.eval (.tmp 77) = t77 := by rw [ha0]; rfl
  have gY78 : a0.eval (.tmp 78) = t78 := by rw [ha0]; rfl
  have gY79 : a0.eval (.tmp 79) = t79 := by rw [ha0]; rfl
  have gY80 : a0.eval (.tmp 80) = t80 := by rw [ha0]; rfl
  have gY81 : a0.eval (.tmp 81) = t81 := by rw [ha0]; rfl
  have gY82 : a0.eval (.tmp 82) = t82 := by rw [ha0]; rfl
  have gY83 : a0.eval (.tmp 83) = t83 := by rw [ha0]; rfl
  have gY84 : a0.eval (.tmp 84) = t84 := by rw [ha0]; rfl
  have gY85 : a0.eval (.tmp 85) = t85 := by rw [ha0]; rfl
  have gY86 : a0.eval (.tmp 86) = t86 := by rw [ha0]; rfl
  have gY87 : a0.eval (.tmp 87) = t87 := by rw [ha0]; rfl
  have gY88 : a0.eval (.tmp 88) = t88 := by rw [ha0]; rfl
  have gY89 : a0.eval (.tmp 89) = t89 := by rw [ha0]; rfl
  have gY90 : a0.eval (.tmp 90) = t90 := by rw [ha0]; rfl
  have gY91 : a0.eval (.tmp 91) = t91 := by rw [ha0]; rfl
  have gY92 : a0.eval (.tmp 92) = t92 := by rw [ha0]; rfl
  have gY93 : a0.eval (.tmp 93) = t93 := by rw [ha0]; rfl
  have gY94 : a0.eval (.tmp 94) = t94 := by rw [ha0]; rfl
  have gY95 : a0.eval (.tmp 95) = t95 := by rw [ha0]; rfl
  have gY96 : a0.eval (.tmp 96) = t96 := by rw [ha0]; rfl
  have gY97 : a0.eval (.tmp 97) = t97 := by rw [ha0]; rfl
  have gY98 : a0.eval (.tmp 98) = t98 := by rw [ha0]; rfl
  have gY99 : a0.eval (.tmp 99) = t99 := by rw [ha0]; rfl
  have gY100 : a0.eval (.tmp 100) = t100 := by rw [ha0]; rfl
  have gY101 : a0.eval (.tmp 101) = t101 := by rw [ha0]; rfl
  have gY102 : a0.eval (.tmp 102) = t102 := by rw [ha0]; rfl
  have gY103 : a0.eval (.tmp 103) = t103 := by rw [ha0]; rfl
  have gY104 : a0.eval (.tmp 104) = t104 := by rw [ha0]; rfl
  have gY105 : a0.eval (.tmp 105) = t105 := by rw [ha0]; rfl
  have gY106 : a0.eval (.tmp 106) = t106 := by rw [ha0]; rfl
  have gY107 : a0.eval (.tmp 107) = t107 := by rw [ha0]; rfl
  have gY108 : a0.eval (.tmp 108) = t108 := by rw [ha0]; rfl
  have gY109 : a0.eval (.tmp 109) = t109 := by rw [ha0]; rfl
  have gY110 : a0.eval (.tmp 110) = t110 := by rw [ha0]; rfl
  have gY111 : a0.eval (.tmp 111) = t111 := by rw [ha0]; rfl
  have gY112 : a0.eval (.tmp 112) = t112 := by rw [ha0]; rfl
  have gY113 : a0.eval (.tmp 113) = t113 := by rw [ha0]; rfl
  have gY114 : a0.eval (.tmp 114) = t114 := by rw [ha0]; rfl
  have gY115 : a0.eval (.tmp 115) = t115 := by rw [ha0]; rfl
  have gY116 : a0.eval (.tmp 116) = t116 := by rw [ha0]; rfl
  have gY117 : a0.eval (.tmp 117) = t117 := by rw [ha0]; rfl
  have gY118 : a0.eval (.tmp 118) = t118 := by rw [ha0]; rfl
  have gY119 : a0.eval (.tmp 119) = t119 := by rw [ha0]; rfl
  have gY120 : a0.eval (.tmp 120) = t120 := by rw [ha0]; rfl
  have gY121 : a0.eval (.tmp 121) = t121 := by rw [ha0]; rfl
  have gY122 : a0.eval (.tmp 122) = t122 := by rw [ha0]; rfl
  have gY123 : a0.eval (.tmp 123) = t123 := by rw [ha0]; rfl
  have gY124 : a0.eval (.tmp 124) = t124 := by rw [ha0]; rfl
  have gY125 : a0.eval (.tmp 125) = t125 := by rw [ha0]; rfl
  have gY134 : a0.eval (.tmp 134) = t134 := by rw [ha0]; rfl
  have gY135 : a0.eval (.tmp 135) = t135 := by rw [ha0]; rfl
  have gY136 : a0.eval (.tmp 136) = t136 := by rw [ha0]; rfl
  have gY137 : a0.eval (.tmp 137) = t137 := by rw [ha0]; rfl
  have gY138 : a0.eval (.tmp 138) = t138 := by rw [ha0]; rfl
  have gY139 : a0.eval (.tmp 139) = t139 := by rw [ha0]; rfl
  have gY140 : a0.eval (.tmp 140) = t140 := by rw [ha0]; rfl
  have gY141 : a0.eval (.tmp 141) = t141 := by rw [ha0]; rfl
  rw [← ha0]
  refine ja_core W tb la ll lc iv s0 s1 s2 s3 s5 n0 n1 n2 n3 n5 er s4 n4 V a0 hs0 gY2 gY9 gY11 htk ht hp ?_
  clear ha0
  intro a X E
  obtain ⟨nb, kY21, m1, m2⟩ := E.f9 rfl
  have kY22 := E.v10 rfl
  have hq := fin X (a.eval (.tmp 126)) (a.eval (.tmp 127)) (a.eval (.tmp 128)) (a.eval (.tmp 129)) (a.eval (.tmp 130)) (a.eval (.tmp 131)) (a.eval (.tmp 132)) (a.eval (.tmp 133)) nb E.lo m1 m2
  have ea : a = ⟨#[a.eval (.tmp 0), a.eval (.tmp 1), a.eval (.tmp 2), a.eval (.tmp 3), a.eval (.tmp 4), a.eval (.tmp 5), a.eval (.tmp 6), a.eval (.tmp 7), a.eval (.tmp 8), a.eval (.tmp 9), a.eval (.tmp 10), a.eval (.tmp 11), a.eval (.tmp 12), a.eval (.tmp 13), a.eval (.tmp 14), a.eval (.tmp 15), a.eval (.tmp 16), a.eval (.tmp 17), a.eval (.tmp 18), a.eval (.tmp 19), a.eval (.tmp 20), a.eval (.tmp 21), a.eval (.tmp 22), a.eval (.tmp 23), a.eval (.tmp 24), a.eval (.tmp 25), a.eval (.tmp 26), a.eval (.tmp 27), a.eval (.tmp 28), a.eval (.tmp 29), a.eval (.tmp 30), a.eval (.tmp 31), a.eval (.tmp 32), a.eval (.tmp 33), a.eval (.tmp 34), a.eval (.tmp 35), a.eval (.tmp 36), a.eval (.tmp 37), a.eval (.tmp 38), a.eval (.tmp 39), a.eval (.tmp 40), a.eval (.tmp 41), a.eval (.tmp 42), a.eval (.tmp 43), a.eval (.tmp 44), a.eval (.tmp 45), a.eval (.tmp 46), a.eval (.tmp 47), a.eval (.tmp 48), a.eval (.tmp 49), a.eval (.tmp 50), a.eval (.tmp 51), a.eval (.tmp 52), a.eval (.tmp 53), a.eval (.tmp 54), a.eval (.tmp 55), a.eval (.tmp 56), a.eval (.tmp 57), a.eval (.tmp 58), a.eval (.tmp 59), a.eval (.tmp 60), a.eval (.tmp 61), a.eval (.tmp 62), a.eval (.tmp 63), a.eval (.tmp 64), a.eval (.tmp 65), a.eval (.tmp 66), a.eval (.tmp 67), a.eval (.tmp 68), a.eval (.tmp 69), a.eval (.tmp 70), a.eval (.tmp 71), a.eval (.tmp 72), a.eval (.tmp 73), a.eval (.tmp 74), a.eval (.tmp 75), a.eval (.tmp 76), a.eval (.tmp 77), a.eval (.tmp 78), a.eval (.tmp 79), a.eval (.tmp 80), a.eval (.tmp 81), a.eval (.tmp 82), a.eval (.tmp 83), a.eval (.tmp 84), a.eval (.tmp 85), a.eval (.tmp 86), a.eval (.tmp 87), a.eval (.tmp 88), a.eval (.tmp 89), a.eval (.tmp 90), a.eval (.tmp 91), a.eval (.tmp 92), a.eval (.tmp 93), a.eval (.tmp 94), a.eval (.tmp 95), a.eval (.tmp 96), a.eval (.tmp 97), a.eval (.tmp 98), a.eval (.tmp 99), a.eval (.tmp 100), a.eval (.tmp 101), a.eval (.tmp 102), a.eval (.tmp 103), a.eval (.tmp 104), a.eval (.tmp 105), a.eval (.tmp 106), a.eval (.tmp 107), a.eval (.tmp 108), a.eval (.tmp 109), a.eval (.tmp 110), a.eval (.tmp 111), a.eval (.tmp 112), a.eval (.tmp 113), a.eval (.tmp 114), a.eval (.tmp 115), a.eval (.tmp 116), a.eval (.tmp 117), a.eval (.tmp 118), a.eval (.tmp 119), a.eval (.tmp 120), a.eval (.tmp 121), a.eval (.tmp 122), a.eval (.tmp 123), a.eval (.tmp 124), a.eval (.tmp 125), a.eval (.tmp 126), a.eval (.tmp 127), a.eval (.tmp 128), a.eval (.tmp 129), a.eval (.tmp 130), a.eval (.tmp 131), a.eval (.tmp 132), a.eval (.tmp 133), a.eval (.tmp 134), a.eval (.tmp 135), a.eval (.tmp 136), a.eval (.tmp 137), a.eval (.tmp 138), a.eval (.tmp 139), a.eval (.tmp 140), a.eval (.tmp 141)], a.defers⟩ := act_eta a 142 (E.sz.trans hs0)
  rw [ea, E.df, hd0]
  have kY0 : a.eval (.tmp 0) = t0 := (E.ag 0 (by omega) (by omega) (by omega)).trans gY0
  have kY1 : a.eval (.tmp 1) = t1 := (E.ag 1 (by omega) (by omega) (by omega)).trans gY1
  have kY2 : a.eval (.tmp 2) = .slice la ll lc := (E.ag 2 (by omega) (by omega) (by omega)).trans gY2
  have kY3 : a.eval (.tmp 3) = t3 := (E.ag 3 (by omega) (by omega) (by omega)).trans gY3
  have kY4 : a.eval (.tmp 4) = t4 := (E.ag 4 (by omega) (by omega) (by omega)).trans gY4
  have kY5 : a.eval (.tmp 5) = t5 := (E.ag 5 (by omega) (by omega) (by omega)).trans gY5
  have kY6 : a.eval (.tmp 6) = t6 := (E.ag 6 (by omega) (by omega) (by omega)).trans gY6
  have kY7 : a.eval (.tmp 7) = t7 := (E.ag 7 (by omega) (by omega) (by omega)).trans gY7
  have kY8 : a.eval (.tmp 8) = t8 := (E.ag 8 (by omega) (by omega) (by omega)).trans gY8
  have kY9 : a.eval (.tmp 9) = .pointer (some ⟨tb, 0, none⟩) := (E.ag 9 (by omega) (by omega) (by omega)).trans gY9
  have kY10 : a.eval (.tmp 10) = t10 := (E.ag 10 (by omega) (by omega) (by omega)).trans gY10
  have kY11 : a.eval (.tmp 11) = .int .i64 iv := (E.ag 11 (by omega) (by omega) (by omega)).trans gY11
  have kY12 : a.eval (.tmp 12) = t12 := (E.ag 12 (by omega) (by omega) (by omega)).trans gY12
  have kY13 : a.eval (.tmp 13) = t13 := (E.ag 13 (by omega) (by omega) (by omega)).trans gY13
  have kY14 : a.eval (.tmp 14) = t14 := (E.ag 14 (by omega) (by omega) (by omega)).trans gY14
  have kY15 : a.eval (.tmp 15) = t15 := (E.ag 15 (by omega) (by omega) (by omega)).trans gY15
  have kY16 : a.eval (.tmp 16) = t16 := (E.ag 16 (by omega) (by omega) (by omega)).trans gY16
  have kY17 : a.eval (.tmp 17) = t17 := (E.ag 17 (by omega) (by omega) (by omega)).trans gY17
  have kY18 : a.eval (.tmp 18) = t18 := (E.ag 18 (by omega) (by omega) (by omega)).trans gY18
  have kY19 : a.eval (.tmp 19) = t19 := (E.ag 19 (by omega) (by omega) (by omega)).trans gY19
  have kY20 : a.eval (.tmp 20) = t20 := (E.ag 20 (by omega) (by omega) (by omega)).trans gY20
  have kY23 : a.eval (.tmp 23) = t23 := (E.ag 23 (by omega) (by omega) (by omega)).trans gY23
  have kY24 : a.eval (.tmp 24) = t24 := (E.ag 24 (by omega) (by omega) (by omega)).trans gY24
  have kY25 : a.eval (.tmp 25) = t25 := (E.ag 25 (by omega) (by omega) (by omega)).trans gY25
  have kY26 : a.eval (.tmp 26) = t26 := (E.ag 26 (by omega) (by omega) (by omega)).trans gY26
  have kY27 : a.eval (.tmp 27) = t27 := (E.ag 27 (by omega) (by omega) (by omega)).trans gY27
  have kY28 : a.eval (.tmp 28) = t28 := (E.ag 28 (by omega) (by omega) (by omega)).trans gY28
  have kY29 : a.eval (.tmp 29) = t29 := (E.ag 29 (by omega) (by omega) (by omega)).trans gY29
  have kY30 : a.eval (.tmp 30) = t30 := (E.ag 30 (by omega) (by omega) (by omega)).trans gY30
  have kY31 : a.eval (.tmp 31) = t31 := (E.ag 31 (by omega) (by omega) (by omega)).trans gY31
  have kY32 : a.eval (.tmp 32) = t32 := (E.ag 32 (by omega) (by omega) (by omega)).trans gY32
  have kY33 : a.eval (.tmp 33) = t33 := (E.ag 33 (by omega) (by omega) (by omega)).trans gY33
  have kY34 : a.eval (.tmp 34) = t34 := (E.ag 34 (by omega) (by omega) (by omega)).trans gY34
  have kY35 : a.eval (.tmp 35) = t35 := (E.ag 35 (by omega) (by omega) (by omega)).trans gY35
  have kY36 : a.eval (.tmp 36) = t36 := (E.ag 36 (by omega) (by omega) (by omega)).trans gY36
  have kY37 : a.eval (.tmp 37) = t37 := (E.ag 37 (by omega) (by omega) (by omega)).trans gY37
  have kY38 : a.eval (.tmp 38) = t38 := (E.ag 38 (by omega) (by omega) (by omega)).trans gY38
  have kY39 : a.eval (.tmp 39) = t39 := (E.ag 39 (by omega) (by omega) (by omega)).trans gY39
  have kY40 : a.eval (.tmp 40) = t40 := (E.ag 40 (by omega) (by omega) (by omega)).trans gY40
  have kY41 : a.eval (.tmp 41) = t41 := (E.ag 41 (by omega) (by omega) (by omega)).trans gY41
  have kY42 : a.eval (.tmp 42) = t42 := (E.ag 42 (by omega) (by omega) (by omega)).trans gY42
  have kY43 : a.eval (.tmp 43) = t43 := (E.ag 43 (by omega) (by omega) (by omega)).trans gY43
  have kY44 : a.eval (.tmp 44) = t44 := (E.ag 44 (by omega) (by omega) (by omega)).trans gY44
  have kY45 : a.eval (.tmp 45) = t45 := (E.ag 45 (by omega) (by omega) (by omega)).trans gY45
  have kY46 : a.eval (.tmp 46) = t46 := (E.ag 46 (by omega) (by omega) (by omega)).trans gY46
  have kY47 : a.eval (.tmp 47) = t47 := (E.ag 47 (by omega) (by omega) (by omega)).trans gY47
  have kY48 : a.eval (.tmp 48) = t48 := (E.ag 48 (by omega) (by omega) (by omega)).trans gY48
  have kY49 : a.eval (.tmp 49) = t49 := (E.ag 49 (by omega) (by omega) (by omega)).trans gY49
  have kY50 : a.eval (.tmp 50) = t50 := (E.ag 50 (by omega) (by omega) (by omega)).trans gY50
  have kY51 : a.eval (.tmp 51) = t51 := (E.ag 51 (by omega) (by omega) (by omega)).trans gY51
  have kY52 : a.eval (.tmp 52) = t52 := (E.ag 52 (by omega) (by omega) (by omega)).trans gY52
  have kY53 : a.eval (.tmp 53) = t53 := (E.ag 53 (by omega) (by omega) (by omega)).trans gY53
  have kY54 : a.eval (.tmp 54) = t54 := (E.ag 54 (by omega) (by omega) (by omega)).trans gY54
  have kY55 : a.eval (.tmp 55) = t55 := (E.ag 55 (by omega) (by omega) (by omega)).trans gY55
  have kY56 : a.eval (.tmp 56) = t56 := (E.ag 56 (by omega) (by omega) (by omega)).trans gY56
  have kY57 : a.eval (.tmp 57) = t57 := (E.ag 57 (by omega) (by omega) (by omega)).trans gY57
  have kY58 : a.eval (.tmp 58) = t58 := (E.ag 58 (by omega) (by omega) (by omega)).trans gY58
  have kY59 : a.eval (.tmp 59) = t59 := (E.ag 59 (by omega) (by omega) (by omega)).trans gY59
  have kY60 : a.eval (.tmp 60) = t60 := (E.ag 60 (by omega) (by omega) (by omega)).trans gY60
  have kY61 : a.eval (.tmp 61) = t61 := (E.ag 61 (by omega) (by omega) (by omega)).trans gY61
  have kY62 : a.eval (.tmp 62) = t62 := (E.ag 62 (by omega) (by omega) (by omega)).trans gY62
  have kY63 : a.eval (.tmp 63) = t63 := (E.ag 63 (by omega) (by omega) (by omega)).trans gY63
  have kY64 : a.eval (.tmp 64) = t64 := (E.ag 64 (by omega) (by omega) (by omega)).trans gY64
  have kY65 : a.eval (.tmp 65) = t65 := (E.ag 65 (by omega) (by omega) (by omega)).trans gY65
  have kY66 : a.eval (.tmp 66) = t66 := (E.ag 66 (by omega) (by omega) (by omega)).trans gY66
  have kY67 : a.eval (.tmp 67) = t67 := (E.ag 67 (by omega) (by omega) (by omega)).trans gY67
  have kY68 : a.eval (.tmp 68) = t68 := (E.ag 68 (by omega) (by omega) (by omega)).trans gY68
  have kY69 : a.eval (.tmp 69) = t69 := (E.ag 69 (by omega) (by omega) (by omega)).trans gY69
  have kY70 : a.eval (.tmp 70) = t70 := (E.ag 70 (by omega) (by omega) (by omega)).trans gY70
  have kY71 : a.eval (.tmp 71) = t71 := (E.ag 71 (by omega) (by omega) (by omega)).trans gY71
  have kY72 : a.eval (.tmp 72) = t72 := (E.ag 72 (by omega) (by omega) (by omega)).trans gY72
  have kY73 : a.eval (.tmp 73) = t73 := (E.ag 73 (by omega) (by omega) (by omega)).trans gY73
  have kY74 : a.eval (.tmp 74) = t74 := (E.ag 74 (by omega) (by omega) (by omega)).trans gY74
  have kY75 : a.eval (.tmp 75) = t75 := (E.ag 75 (by omega) (by omega) (by omega)).trans gY75
  have kY76 : a.eval (.tmp 76) = t76 := (E.ag 76 (by omega) (by omega) (by omega)).trans gY76
  have kY77 : a.eval (.tmp 77) = t77 := (E.ag 77 (by omega) (by omega) (by omega)).trans gY77
  have kY78 : a.eval (.tmp 78) = t78 := (E.ag 78 (by omega) (by omega) (by omega)).trans gY78
  have kY79 : a.eval (.tmp 79) = t79 := (E.ag 79 (by omega) (by omega) (by omega)).trans gY79
  have kY80 : a.eval (.tmp 80) = t80 := (E.ag 80 (by omega) (by omega) (by omega)).trans gY80
  have kY81 : a.eval (.tmp 81) = t81 := (E.ag 81 (by omega) (by omega) (by omega)).trans gY81
  have kY82 : a.eval (.tmp 82) = t82 := (E.ag 82 (by omega) (by omega) (by omega)).trans gY82
  have kY83 : a.eval (.tmp 83) = t83 := (E.ag 83 (by omega) (by omega) (by omega)).trans gY83
  have kY84 : a.eval (.tmp 84) = t84 := (E.ag 84 (by omega) (by omega) (by omega)).trans gY84
  have kY85 : a.eval (.tmp 85) = t85 := (E.ag 85 (by omega) (by omega) (by omega)).trans gY85
  have kY86 : a.eval (.tmp 86) = t86 := (E.ag 86 (by omega) (by omega) (by omega)).trans gY86
  have kY87 : a.eval (.tmp 87) = t87 := (E.ag 87 (by omega) (by omega) (by omega)).trans gY87
  have kY88 : a.eval (.tmp 88) = t88 := (E.ag 88 (by omega) (by omega) (by omega)).trans gY88
  have kY89 : a.eval (.tmp 89) = t89 := (E.ag 89 (by omega) (by omega) (by omega)).trans gY89
  have kY90 : a.eval (.tmp 90) = t90 := (E.ag 90 (by omega) (by omega) (by omega)).trans gY90
  have kY91 : a.eval (.tmp 91) = t91 := (E.ag 91 (by omega) (by omega) (by omega)).trans gY91
  have kY92 : a.eval (.tmp 92) = t92 := (E.ag 92 (by omega) (by omega) (by omega)).trans gY92
  have kY93 : a.eval (.tmp 93) = t93 := (E.ag 93 (by omega) (by omega) (by omega)).trans gY93
  have kY94 : a.eval (.tmp 94) = t94 := (E.ag 94 (by omega) (by omega) (by omega)).trans gY94
  have kY95 : a.eval (.tmp 95) = t95 := (E.ag 95 (by omega) (by omega) (by omega)).trans gY95
  have kY96 : a.eval (.tmp 96) = t96 := (E.ag 96 (by omega) (by omega) (by omega)).trans gY96
  have kY97 : a.eval (.tmp 97) = t97 := (E.ag 97 (by omega) (by omega) (by omega)).trans gY97
  have kY98 : a.eval (.tmp 98) = t98 := (E.ag 98 (by omega) (by omega) (by omega)).trans gY98
  have kY99 : a.eval (.tmp 99) = t99 := (E.ag 99 (by omega) (by omega) (by omega)).trans gY99
  have kY100 : a.eval (.tmp 100) = t100 := (E.ag 100 (by omega) (by omega) (by omega)).trans gY100
  have kY101 : a.eval (.tmp 101) = t101 := (E.ag 101 (by omega) (by omega) (by omega)).trans gY101
  have kY102 : a.eval (.tmp 102) = t102 := (E.ag 102 (by omega) (by omega) (by omega)).trans gY102
  have kY103 : a.eval (.tmp 103) = t103 := (E.ag 103 (by omega) (by omega) (by omega)).trans gY103
  have kY104 : a.eval (.tmp 104) = t104 := (E.ag 104 (by omega) (by omega) (by omega)).trans gY104
  have kY105 : a.eval (.tmp 105) = t105 := (E.ag 105 (by omega) (by omega) (by omega)).trans gY105
  have kY106 : a.eval (.tmp 106) = t106 := (E.ag 106 (by omega) (by omega) (by omega)).trans gY106
  have kY107 : a.eval (.tmp 107) = t107 := (E.ag 107 (by omega) (by omega) (by omega)).trans gY107
  have kY108 : a.eval (.tmp 108) = t108 := (E.ag 108 (by omega) (by omega) (by omega)).trans gY108
  have kY109 : a.eval (.tmp 109) = t109 := (E.ag 109 (by omega) (by omega) (by omega)).trans gY109
  have kY110 : a.eval (.tmp 110) = t110 := (E.ag 110 (by omega) (by omega) (by omega)).trans gY110
  have kY111 : a.eval (.tmp 111) = t111 := (E.ag 111 (by omega) (by omega) (by omega)).trans gY111
  have kY112 : a.eval (.tmp 112) = t112 := (E.ag 112 (by omega) (by omega) (by omega)).trans gY112
  have kY113 : a.eval (.tmp 113) = t113 := (E.ag 113 (by omega) (by omega) (by omega)).trans gY113
  have kY114 : a.eval (.tmp 114) = t114 := (E.ag 114 (by omega) (by omega) (by omega)).trans gY114
  have kY115 : a.eval (.tmp 115) = t115 := (E.ag 115 (by omega) (by omega) (by omega)).trans gY115
  have kY116 : a.eval (.tmp 116) = t116 := (E.ag 116 (by omega) (by omega) (by omega)).trans gY116
  have kY117 : a.eval (.tmp 117) = t117 := (E.ag 117 (by omega) (by omega) (by omega)).trans gY117
  have kY118 : a.eval (.tmp 118) = t118 := (E.ag 118 (by omega) (by omega) (by omega)).trans gY118
  have kY119 : a.eval (.tmp 119) = t119 := (E.ag 119 (by omega) (by omega) (by omega)).trans gY119
  have kY120 : a.eval (.tmp 120) = t120 := (E.ag 120 (by omega) (by omega) (by omega)).trans gY120
  have kY121 : a.eval (.tmp 121) = t121 := (E.ag 121 (by omega) (by omega) (by omega)).trans gY121
  have kY122 : a.eval (.tmp 122) = t122 := (E.ag 122 (by omega) (by omega) (by omega)).trans gY122
  have kY123 : a.eval (.tmp 123) = t123 := (E.ag 123 (by omega) (by omega) (by omega)).trans gY123
  have kY124 : a.eval (.tmp 124) = t124 := (E.ag 124 (by omega) (by omega) (by omega)).trans gY124
  have kY125 : a.eval (.tmp 125) = t125 := (E.ag 125 (by omega) (by omega) (by omega)).trans gY125
  have kY134 : a.eval (.tmp 134) = t134 := (E.ag 134 (by omega) (by omega) (by omega)).trans gY134
  have kY135 : a.eval (.tmp 135) = t135 := (E.ag 135 (by omega) (by omega) (by omega)).trans gY135
  have kY136 : a.eval (.tmp 136) = t136 := (E.ag 136 (by omega) (by omega) (by omega)).trans gY136
  have kY137 : a.eval (.tmp 137) = t137 := (E.ag 137 (by omega) (by omega) (by omega)).trans gY137
  have kY138 : a.eval (.tmp 138) = t138 := (E.ag 138 (by omega) (by omega) (by omega)).trans gY138
  have kY139 : a.eval (.tmp 139) = t139 := (E.ag 139 (by omega) (by omega) (by omega)).trans gY139
  have kY140 : a.eval (.tmp 140) = t140 := (E.ag 140 (by omega) (by omega) (by omega)).trans gY140
  have kY141 : a.eval (.tmp 141) = t141 := (E.ag 141 (by omega) (by omega) (by omega)).trans gY141
  rw [kY0, kY1, kY2, kY3, kY4, kY5, kY6, kY7, kY8, kY9, kY10, kY11, kY12, kY13, kY14, kY15, kY16, kY17, kY18, kY19, kY20, kY21, kY22, kY23, kY24, kY25, kY26, kY27, kY28, kY29, kY30, kY31, kY32, kY33, kY34, kY35, kY36, kY37, kY38, kY39, kY40, kY41, kY42, kY43, kY44, kY45, kY46, kY47, kY48, kY49, kY50, kY51, kY52, kY53, kY54, kY55, kY56, kY57, kY58, kY59, kY60, kY61, kY62, kY63, kY64, kY65, kY66, kY67, kY68, kY69, kY70, kY71, kY72, kY73, kY74, kY75, kY76, kY77, kY78, kY79, kY80, kY81, kY82, kY83, kY84, kY85, kY86, kY87, kY88, kY89, kY90, kY91, kY92, kY93, kY94, kY95, kY96, kY97, kY98, kY99, kY100, kY101, kY102, kY103, kY104, kY105, kY106, kY107, kY108, kY109, kY110, kY111, kY112, kY113, kY114, kY115, kY116, kY117, kY118, kY119, kY120, kY121, kY122, kY123, kY124, kY125, kY134, kY135, kY136, kY137, kY138, kY139, kY140, kY141]
  exact hq

end Go.Proofs.Ytaldjpjlggnhhaa
