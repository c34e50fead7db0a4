/-
  One round of the reference's Same of layer 10: a statement whose order is open, two of its parts guarded.
-/
import Derived.Test.YtagoilabphmdfaaDoorESame
import Derived.Test.YtagoilabphmdfaaDoorK27
import Derived.Shelf.Abstract
namespace Go.Proofs.YtagoilabphmdfaaDoor
open Go.RowKit

theorem ldI {w : World} {b k : Nat} {v : Value} (h : w.cell? ⟨b, k, none⟩ = some v) : (Instr.loadAt 3 (.pointer (some ⟨b, k, none⟩))).run Tryd.prog w = .ok v w := by
  go_simp
theorem ldS {w : World} {b k : Nat} {v : Value} (h : w.cell? ⟨b, k, none⟩ = some v) : (Instr.loadAt 33 (.pointer (some ⟨b, k, none⟩))).run Tryd.prog w = .ok v w := by
  go_simp
theorem idxA {w : World} {b off i L c : Nat} (h : i < L) : (Instr.indexAt 22 (.slice (some ⟨b, off, none⟩) L c) (.int .i64 (i : Int))).run Tryd.prog w = .ok (.pointer (some ⟨b, off + i * 3, none⟩)) w := by
  have h1 : (i : Int) < (L : Int) := by omega
  go_simp
theorem fldA0 {w : World} {b k : Nat} : (Instr.fieldAt 35 (.pointer (some ⟨b, k, none⟩)) 0).run Tryd.prog w = .ok (.pointer (some ⟨b, k, none⟩)) w := by go_simp
theorem fldA1 {w : World} {b k : Nat} : (Instr.fieldAt 35 (.pointer (some ⟨b, k, none⟩)) 1).run Tryd.prog w = .ok (.pointer (some ⟨b, k + 1, none⟩)) w := by go_simp
theorem fldA2 {w : World} {b k : Nat} : (Instr.fieldAt 35 (.pointer (some ⟨b, k, none⟩)) 2).run Tryd.prog w = .ok (.pointer (some ⟨b, k + 2, none⟩)) w := by go_simp
theorem run_neqI {a : Act} {o : Oper} {x y : Operand} {X Y : Int} {w : World} (ho : o.op = .binOp .neq 3 x y 3) (hx : a.eval x = .int .i64 X) (hy : a.eval y = .int .i64 Y) : (execOp a.eval o).run Tryd.prog w = .ok (.value (.bool (X != Y))) w := by
  have h3 : (binOp .neq 3 (.int .i64 X) (.int .i64 Y)).run Tryd.prog w = .ok (.bool (X != Y)) w := by go_simp
  simp only [execOp, ho, hx, hy, eqGuard]
  simp [h3, Result.andThen]
theorem run_not {a : Act} {o : Oper} {x : Operand} {X : Bool} {w : World} (ho : o.op = .unOp .not 4 x) (hx : a.eval x = .bool X) : (execOp a.eval o).run Tryd.prog w = .ok (.value (.bool (!X))) w := by
  simp only [execOp, ho, hx]
  go_simp
theorem run_pick {a : Act} {o : Oper} {x y z : Operand} {X : Bool} {w : World} (ho : o.op = .pick x y z) (hx : a.eval x = .bool X) : (execOp a.eval o).run Tryd.prog w = .ok (.value (bif X then a.eval y else a.eval z)) w := by
  cases X <;> simp [execOp, ho, hx, asBool]
theorem act_eta (a : Act) (n : Nat) (h : a.tmps.size = n) : a = ⟨((List.range n).map fun t => a.eval (.tmp t)).toArray, a.defers⟩ := by
  obtain ⟨xs, ds⟩ := a
  congr 1
  refine Array.ext (by simp [← h]) fun i h1 h2 => ?_
  simp [Act.eval, h1]
/-- Each operation yields one value. -/
abbrev TVg (vs : List Value) (i : Nat) (v : Value) (_ : World) : Prop := v = vs.getD i undef

def sa0 : Oper := { dst := some 17, op := Op.move (Operand.tmp 0), type := 22, pos := "ref.go:168", after := #[], guard := none }
def sa1 : Oper := { dst := some 18, op := Op.move (Operand.tmp 5), type := 3, pos := "ref.go:168", after := #[], guard := none }
def sa2 : Oper := { dst := some 19, op := Op.indexAddr 22 (Operand.tmp 17) (Operand.tmp 18), type := 0, pos := "ref.go:168", after := #[{ on := 0, ground := Ground.data }, { on := 1, ground := Ground.data }], guard := none }
def sa3 : Oper := { dst := some 20, op := Op.fieldAddr 35 (Operand.tmp 19) 0, type := 0, pos := "ref.go:168", after := #[{ on := 2, ground := Ground.data }], guard := none }
def sa4 : Oper := { dst := some 21, op := Op.load 3 (Operand.tmp 20), type := 3, pos := "ref.go:168", after := #[{ on := 3, ground := Ground.data }], guard := none }
def sa5 : Oper := { dst := some 22, op := Op.move (Operand.tmp 1), type := 22, pos := "ref.go:168", after := #[], guard := none }
def sa6 : Oper := { dst := some 23, op := Op.move (Operand.tmp 5), type := 3, pos := "ref.go:168", after := #[], guard := none }
def sa7 : Oper := { dst := some 24, op := Op.indexAddr 22 (Operand.tmp 22) (Operand.tmp 23), type := 0, pos := "ref.go:168", after := #[{ on := 5, ground := Ground.data }, { on := 6, ground := Ground.data }], guard := none }
def sa8 : Oper := { dst := some 25, op := Op.fieldAddr 35 (Operand.tmp 24) 0, type := 0, pos := "ref.go:168", after := #[{ on := 7, ground := Ground.data }], guard := none }
def sa9 : Oper := { dst := some 26, op := Op.load 3 (Operand.tmp 25), type := 3, pos := "ref.go:168", after := #[{ on := 8, ground := Ground.data }], guard := none }
def sa10 : Oper := { dst := some 27, op := Op.binOp BinOp.neq 3 (Operand.tmp 21) (Operand.tmp 26) 3, type := 4, pos := "ref.go:168", after := #[{ on := 4, ground := Ground.data }, { on := 9, ground := Ground.data }], guard := none }
def sa11 : Oper := { dst := some 28, op := Op.move (Operand.tmp 27), type := 4, pos := "ref.go:168", after := #[{ on := 10, ground := Ground.data }], guard := none }
def sa12 : Oper := { dst := some 29, op := Op.move (Operand.tmp 0), type := 22, pos := "ref.go:168", after := #[{ on := 11, ground := Ground.guard }], guard := some (11, false) }
def sa13 : Oper := { dst := some 30, op := Op.move (Operand.tmp 5), type := 3, pos := "ref.go:168", after := #[{ on := 11, ground := Ground.guard }], guard := some (11, false) }
def sa14 : Oper := { dst := some 31, op := Op.indexAddr 22 (Operand.tmp 29) (Operand.tmp 30), type := 0, pos := "ref.go:168", after := #[{ on := 12, ground := Ground.data }, { on := 13, ground := Ground.data }, { on := 11, ground := Ground.guard }], guard := some (11, false) }
def sa15 : Oper := { dst := some 32, op := Op.fieldAddr 35 (Operand.tmp 31) 1, type := 0, pos := "ref.go:168", after := #[{ on := 14, ground := Ground.data }, { on := 11, ground := Ground.guard }], guard := some (11, false) }
def sa16 : Oper := { dst := some 33, op := Op.load 33 (Operand.tmp 32), type := 33, pos := "ref.go:168", after := #[{ on := 15, ground := Ground.data }, { on := 11, ground := Ground.guard }], guard := some (11, false) }
def sa17 : Oper := { dst := some 34, op := Op.move (Operand.tmp 1), type := 22, pos := "ref.go:168", after := #[{ on := 11, ground := Ground.guard }], guard := some (11, false) }
def sa18 : Oper := { dst := some 35, op := Op.move (Operand.tmp 5), type := 3, pos := "ref.go:168", after := #[{ on := 11, ground := Ground.guard }], guard := some (11, false) }
def sa19 : Oper := { dst := some 36, op := Op.indexAddr 22 (Operand.tmp 34) (Operand.tmp 35), type := 0, pos := "ref.go:168", after := #[{ on := 17, ground := Ground.data }, { on := 18, ground := Ground.data }, { on := 11, ground := Ground.guard }], guard := some (11, false) }
def sa20 : Oper := { dst := some 37, op := Op.fieldAddr 35 (Operand.tmp 36) 1, type := 0, pos := "ref.go:168", after := #[{ on := 19, ground := Ground.data }, { on := 11, ground := Ground.guard }], guard := some (11, false) }
def sa21 : Oper := { dst := some 38, op := Op.load 33 (Operand.tmp 37), type := 33, pos := "ref.go:168", after := #[{ on := 20, ground := Ground.data }, { on := 11, ground := Ground.guard }], guard := some (11, false) }
def sa22 : Oper := { dst := some 39, op := Op.call { callee := Callee.value (Operand.func 13), args := #[Operand.tmp 33, Operand.tmp 38], argTypes := #[33, 33] }, type := 4, pos := "ref.go:168", after := #[{ on := 16, ground := Ground.data }, { on := 21, ground := Ground.data }, { on := 11, ground := Ground.chain }, { on := 11, ground := Ground.guard }], guard := some (11, false) }
def sa23 : Oper := { dst := some 40, op := Op.unOp UnOp.not 4 (Operand.tmp 39), type := 4, pos := "ref.go:168", after := #[{ on := 22, ground := Ground.data }, { on := 11, ground := Ground.guard }], guard := some (11, false) }
def sa24 : Oper := { dst := some 41, op := Op.pick (Operand.tmp 28) (Operand.const (Value.bool true)) (Operand.tmp 40), type := 4, pos := "ref.go:168", after := #[{ on := 11, ground := Ground.data }, { on := 23, ground := Ground.data }], guard := none }
def sa25 : Oper := { dst := some 42, op := Op.move (Operand.tmp 41), type := 4, pos := "ref.go:168", after := #[{ on := 24, ground := Ground.data }, { on := 22, ground := Ground.chain }], guard := none }
def sa26 : Oper := { dst := some 43, op := Op.move (Operand.tmp 0), type := 22, pos := "ref.go:168", after := #[{ on := 25, ground := Ground.guard }], guard := some (25, false) }
def sa27 : Oper := { dst := some 44, op := Op.move (Operand.tmp 5), type := 3, pos := "ref.go:168", after := #[{ on := 25, ground := Ground.guard }], guard := some (25, false) }
def sa28 : Oper := { dst := some 45, op := Op.indexAddr 22 (Operand.tmp 43) (Operand.tmp 44), type := 0, pos := "ref.go:168", after := #[{ on := 26, ground := Ground.data }, { on := 27, ground := Ground.data }, { on := 25, ground := Ground.guard }], guard := some (25, false) }
def sa29 : Oper := { dst := some 46, op := Op.fieldAddr 35 (Operand.tmp 45) 2, type := 0, pos := "ref.go:168", after := #[{ on := 28, ground := Ground.data }, { on := 25, ground := Ground.guard }], guard := some (25, false) }
def sa30 : Oper := { dst := some 47, op := Op.load 33 (Operand.tmp 46), type := 33, pos := "ref.go:168", after := #[{ on := 29, ground := Ground.data }, { on := 25, ground := Ground.guard }], guard := some (25, false) }
def sa31 : Oper := { dst := some 48, op := Op.move (Operand.tmp 1), type := 22, pos := "ref.go:168", after := #[{ on := 25, ground := Ground.guard }], guard := some (25, false) }
def sa32 : Oper := { dst := some 49, op := Op.move (Operand.tmp 5), type := 3, pos := "ref.go:168", after := #[{ on := 25, ground := Ground.guard }], guard := some (25, false) }
def sa33 : Oper := { dst := some 50, op := Op.indexAddr 22 (Operand.tmp 48) (Operand.tmp 49), type := 0, pos := "ref.go:168", after := #[{ on := 31, ground := Ground.data }, { on := 32, ground := Ground.data }, { on := 25, ground := Ground.guard }], guard := some (25, false) }
def sa34 : Oper := { dst := some 51, op := Op.fieldAddr 35 (Operand.tmp 50) 2, type := 0, pos := "ref.go:168", after := #[{ on := 33, ground := Ground.data }, { on := 25, ground := Ground.guard }], guard := some (25, false) }
def sa35 : Oper := { dst := some 52, op := Op.load 33 (Operand.tmp 51), type := 33, pos := "ref.go:168", after := #[{ on := 34, ground := Ground.data }, { on := 25, ground := Ground.guard }], guard := some (25, false) }
def sa36 : Oper := { dst := some 53, op := Op.call { callee := Callee.value (Operand.func 13), args := #[Operand.tmp 47, Operand.tmp 52], argTypes := #[33, 33] }, type := 4, pos := "ref.go:168", after := #[{ on := 30, ground := Ground.data }, { on := 35, ground := Ground.data }, { on := 25, ground := Ground.chain }, { on := 25, ground := Ground.guard }], guard := some (25, false) }
def sa37 : Oper := { dst := some 54, op := Op.unOp UnOp.not 4 (Operand.tmp 53), type := 4, pos := "ref.go:168", after := #[{ on := 36, ground := Ground.data }, { on := 25, ground := Ground.guard }], guard := some (25, false) }
def sa38 : Oper := { dst := some 55, op := Op.pick (Operand.tmp 42) (Operand.const (Value.bool true)) (Operand.tmp 54), type := 4, pos := "ref.go:168", after := #[{ on := 25, ground := Ground.data }, { on := 37, ground := Ground.data }], guard := none }
def saOps : Array Oper := #[sa0, sa1, sa2, sa3, sa4, sa5, sa6, sa7, sa8, sa9, sa10, sa11, sa12, sa13, sa14, sa15, sa16, sa17, sa18, sa19, sa20, sa21, sa22, sa23, sa24, sa25, sa26, sa27, sa28, sa29, sa30, sa31, sa32, sa33, sa34, sa35, sa36, sa37, sa38]

set_option maxRecDepth 100000 in
set_option maxHeartbeats 1000000 in
theorem sa_ok : okG saOps [17, 18, 19, 20, 21, 22, 23, 24, 25, 26, 27, 28, 29, 30, 31, 32, 33, 34, 35, 36, 37, 38, 39, 40, 41, 42, 43, 44, 45, 46, 47, 48, 49, 50, 51, 52, 53, 54, 55] = true := by kernel_rfl
set_option maxRecDepth 100000 in
set_option maxHeartbeats 4000000 in
theorem sa_region {Q : Exit → Act → World → Prop} (W : World) (b off b2 off2 L c L2 c2 I : Nat) (k1 k2 : Int) (o1 o2 w1 w2 : Value) (x1 s1 s2 : Bool) (ds : List Deferred) (t2 t3 t4 t6 t7 t8 t9 t10 t11 t12 t13 t14 t15 t16 z17 z18 z19 z20 z21 z22 z23 z24 z25 z26 z27 z28 z29 z30 z31 z32 z33 z34 z35 z36 z37 z38 z39 z40 z41 z42 z43 z44 z45 z46 z47 z48 z49 z50 z51 z52 z53 z54 z55 : Value)
    (hI : I < L) (hI2 : I < L2) (q1 : W.cell? ⟨b, off + I * 3, none⟩ = some (.int .i64 k1)) (q2 : W.cell? ⟨b2, off2 + I * 3, none⟩ = some (.int .i64 k2)) (q3 : W.cell? ⟨b, off + I * 3 + 1, none⟩ = some o1) (q4 : W.cell? ⟨b2, off2 + I * 3 + 1, none⟩ = some o2) (q5 : W.cell? ⟨b, off + I * 3 + 2, none⟩ = some w1) (q6 : W.cell? ⟨b2, off2 + I * 3 + 2, none⟩ = some w2)
    (hx : (k1 != k2) = x1)
    (hc1 : ∀ X, Below W.heap.size W X → Calls Tryd.prog 13 #[o1, o2] X fun e X' => e = .returned (.bool s1) ∧ Below X.heap.size X X')
    (hc2 : ∀ X, Below W.heap.size W X → Calls Tryd.prog 13 #[w1, w2] X fun e X' => e = .returned (.bool s2) ∧ Below X.heap.size X X')
    (fin : ∀ X (u17 u18 u19 u20 u21 u22 u23 u24 u25 u26 u27 u28 u29 u30 u31 u32 u33 u34 u35 u36 u37 u38 u39 u40 u41 u42 u43 u44 u45 u46 u47 u48 u49 u50 u51 u52 u53 u54 : Value), Below W.heap.size W X → Q .normal ⟨#[.slice (some ⟨b, off, none⟩) L c, .slice (some ⟨b2, off2, none⟩) L2 c2, t2, t3, t4, .int .i64 (I : Int), t6, t7, t8, t9, t10, t11, t12, t13, t14, t15, t16, u17, u18, u19, u20, u21, u22, u23, u24, u25, u26, u27, u28, u29, u30, u31, u32, u33, u34, u35, u36, u37, u38, u39, u40, u41, u42, u43, u44, u45, u46, u47, u48, u49, u50, u51, u52, u53, u54, .bool ((x1 || !s1) || !s2)], ds⟩ X) :
    (Code.region 6 saOps true).wp Tryd.prog Q ⟨#[.slice (some ⟨b, off, none⟩) L c, .slice (some ⟨b2, off2, none⟩) L2 c2, t2, t3, t4, .int .i64 (I : Int), t6, t7, t8, t9, t10, t11, t12, t13, t14, t15, t16, z17, z18, z19, z20, z21, z22, z23, z24, z25, z26, z27, z28, z29, z30, z31, z32, z33, z34, z35, z36, z37, z38, z39, z40, z41, z42, z43, z44, z45, z46, z47, z48, z49, z50, z51, z52, z53, z54, z55], ds⟩ W := by
  refine wp_region_guard (by kernel_rfl) _ W 39 (fun i => [17, 18, 19, 20, 21, 22, 23, 24, 25, 26, 27, 28, 29, 30, 31, 32, 33, 34, 35, 36, 37, 38, 39, 40, 41, 42, 43, 44, 45, 46, 47, 48, 49, 50, 51, 52, 53, 54, 55].getD i 0) (TVg [.slice (some ⟨b, off, none⟩) L c, .int .i64 (I : Int), .pointer (some ⟨b, off + I * 3, none⟩), .pointer (some ⟨b, off + I * 3, none⟩), .int .i64 k1, .slice (some ⟨b2, off2, none⟩) L2 c2, .int .i64 (I : Int), .pointer (some ⟨b2, off2 + I * 3, none⟩), .pointer (some ⟨b2, off2 + I * 3, none⟩), .int .i64 k2, .bool x1, .bool x1, bif x1 then undef else .slice (some ⟨b, off, none⟩) L c, bif x1 then undef else .int .i64 (I : Int), bif x1 then undef else .pointer (some ⟨b, off + I * 3, none⟩), bif x1 then undef else .pointer (some ⟨b, off + I * 3 + 1, none⟩), bif x1 then undef else o1, bif x1 then undef else .slice (some ⟨b2, off2, none⟩) L2 c2, bif x1 then undef else .int .i64 (I : Int), bif x1 then undef else .pointer (some ⟨b2, off2 + I * 3, none⟩), bif x1 then undef else .pointer (some ⟨b2, off2 + I * 3 + 1, none⟩), bif x1 then undef else o2, bif x1 then undef else .bool s1, bif x1 then undef else .bool (!s1), .bool (x1 || !s1), .bool (x1 || !s1), bif (x1 || !s1) then undef else .slice (some ⟨b, off, none⟩) L c, bif (x1 || !s1) then undef else .int .i64 (I : Int), bif (x1 || !s1) then undef else .pointer (some ⟨b, off + I * 3, none⟩), bif (x1 || !s1) then undef else .pointer (some ⟨b, off + I * 3 + 2, none⟩), bif (x1 || !s1) then undef else w1, bif (x1 || !s1) then undef else .slice (some ⟨b2, off2, none⟩) L2 c2, bif (x1 || !s1) then undef else .int .i64 (I : Int), bif (x1 || !s1) then undef else .pointer (some ⟨b2, off2 + I * 3, none⟩), bif (x1 || !s1) then undef else .pointer (some ⟨b2, off2 + I * 3 + 2, none⟩), bif (x1 || !s1) then undef else w2, bif (x1 || !s1) then undef else .bool s2, bif (x1 || !s1) then undef else .bool (!s2), .bool ((x1 || !s1) || !s2)]) rfl (fun _ _ _ _ h _ => h) (by decide) (show ∀ i, i < 39 → [17, 18, 19, 20, 21, 22, 23, 24, 25, 26, 27, 28, 29, 30, 31, 32, 33, 34, 35, 36, 37, 38, 39, 40, 41, 42, 43, 44, 45, 46, 47, 48, 49, 50, 51, 52, 53, 54, 55].getD i 0 < 56 by decide) (hdG_of sa_ok) ?_ ?_
  · intro j o ho a X E haft KK hKK
    have hj : j < 39 := (Array.getElem?_eq_some_iff.1 ho).1
    have hsz : a.tmps.size = 56 := E.sz
    have e0 : a.eval (.tmp 0) = .slice (some ⟨b, off, none⟩) L c := E.ag 0 (by decide)
    have e1 : a.eval (.tmp 1) = .slice (some ⟨b2, off2, none⟩) L2 c2 := E.ag 1 (by decide)
    have e5 : a.eval (.tmp 5) = .int .i64 (I : Int) := E.ag 5 (by decide)
    have r := Below.refl X.heap.size X
    have bl := E.bl
    clear E fin
    rcases (by omega : j = 0 ∨ j = 1 ∨ j = 2 ∨ j = 3 ∨ j = 4 ∨ j = 5 ∨ j = 6 ∨ j = 7 ∨ j = 8 ∨ j = 9 ∨ j = 10 ∨ j = 11 ∨ j = 12 ∨ j = 13 ∨ j = 14 ∨ j = 15 ∨ j = 16 ∨ j = 17 ∨ j = 18 ∨ j = 19 ∨ j = 20 ∨ j = 21 ∨ j = 22 ∨ j = 23 ∨ j = 24 ∨ j = 25 ∨ j = 26 ∨ j = 27 ∨ j = 28 ∨ j = 29 ∨ j = 30 ∨ j = 31 ∨ j = 32 ∨ j = 33 ∨ j = 34 ∨ j = 35 ∨ j = 36 ∨ j = 37 ∨ j = 38) with rfl | rfl | rfl | rfl | rfl | rfl | rfl | rfl | rfl | rfl | rfl | rfl | rfl | rfl | rfl | rfl | rfl | rfl | rfl | rfl | rfl | rfl | rfl | rfl | rfl | rfl | rfl | rfl | rfl | rfl | rfl | rfl | rfl | rfl | rfl | rfl | rfl | rfl | rfl
    · obtain rfl : sa0 = o := Option.some.inj ho
      refine wpOp_on ho (wanted_none rfl) ?_
      exact wp_valueZ (v := .slice (some ⟨b, off, none⟩) L c) (w' := X) (by simp [execOp, sa0, e0]) (hKK _ _ r rfl)
    · obtain rfl : sa1 = o := Option.some.inj ho
      refine wpOp_on ho (wanted_none rfl) ?_
      exact wp_valueZ (v := .int .i64 (I : Int)) (w' := X) (by simp [execOp, sa1, e5]) (hKK _ _ r rfl)
    · obtain rfl : sa2 = o := Option.some.inj ho
      refine wpOp_on ho (wanted_none rfl) ?_
      have d0 : a.eval (.tmp 17) = .slice (some ⟨b, off, none⟩) L c := haft ⟨0, .data⟩ (by simp [sa2]) rfl
      have d1 : a.eval (.tmp 18) = .int .i64 (I : Int) := haft ⟨1, .data⟩ (by simp [sa2]) rfl
      exact wp_valueZ (v := .pointer (some ⟨b, off + I * 3, none⟩)) (w' := X) (by simp [execOp, sa2, d0, d1, idxA hI]) (hKK _ _ r rfl)
    · obtain rfl : sa3 = o := Option.some.inj ho
      refine wpOp_on ho (wanted_none rfl) ?_
      have d0 : a.eval (.tmp 19) = .pointer (some ⟨b, off + I * 3, none⟩) := haft ⟨2, .data⟩ (by simp [sa3]) rfl
      exact wp_valueZ (v := .pointer (some ⟨b, off + I * 3, none⟩)) (w' := X) (by simp [execOp, sa3, d0, fldA0]) (hKK _ _ r rfl)
    · obtain rfl : sa4 = o := Option.some.inj ho
      refine wpOp_on ho (wanted_none rfl) ?_
      have d0 : a.eval (.tmp 20) = .pointer (some ⟨b, off + I * 3, none⟩) := haft ⟨3, .data⟩ (by simp [sa4]) rfl
      have q := (bl.cell (World.block_lt_of_cell? W _ q1)).trans q1
      exact wp_valueZ (v := .int .i64 k1) (w' := X) (by simp [execOp, sa4, d0, ldI q]) (hKK _ _ r rfl)
    · obtain rfl : sa5 = o := Option.some.inj ho
      refine wpOp_on ho (wanted_none rfl) ?_
      exact wp_valueZ (v := .slice (some ⟨b2, off2, none⟩) L2 c2) (w' := X) (by simp [execOp, sa5, e1]) (hKK _ _ r rfl)
    · obtain rfl : sa6 = o := Option.some.inj ho
      refine wpOp_on ho (wanted_none rfl) ?_
      exact wp_valueZ (v := .int .i64 (I : Int)) (w' := X) (by simp [execOp, sa6, e5]) (hKK _ _ r rfl)
    · obtain rfl : sa7 = o := Option.some.inj ho
      refine wpOp_on ho (wanted_none rfl) ?_
      have d0 : a.eval (.tmp 22) = .slice (some ⟨b2, off2, none⟩) L2 c2 := haft ⟨5, .data⟩ (by simp [sa7]) rfl
      have d1 : a.eval (.tmp 23) = .int .i64 (I : Int) := haft ⟨6, .data⟩ (by simp [sa7]) rfl
      exact wp_valueZ (v := .pointer (some ⟨b2, off2 + I * 3, none⟩)) (w' := X) (by simp [execOp, sa7, d0, d1, idxA hI2]) (hKK _ _ r rfl)
    · obtain rfl : sa8 = o := Option.some.inj ho
      refine wpOp_on ho (wanted_none rfl) ?_
      have d0 : a.eval (.tmp 24) = .pointer (some ⟨b2, off2 + I * 3, none⟩) := haft ⟨7, .data⟩ (by simp [sa8]) rfl
      exact wp_valueZ (v := .pointer (some ⟨b2, off2 + I * 3, none⟩)) (w' := X) (by simp [execOp, sa8, d0, fldA0]) (hKK _ _ r rfl)
    · obtain rfl : sa9 = o := Option.some.inj ho
      refine wpOp_on ho (wanted_none rfl) ?_
      have d0 : a.eval (.tmp 25) = .pointer (some ⟨b2, off2 + I * 3, none⟩) := haft ⟨8, .data⟩ (by simp [sa9]) rfl
      have q := (bl.cell (World.block_lt_of_cell? W _ q2)).trans q2
      exact wp_valueZ (v := .int .i64 k2) (w' := X) (by simp [execOp, sa9, d0, ldI q]) (hKK _ _ r rfl)
    · obtain rfl : sa10 = o := Option.some.inj ho
      refine wpOp_on ho (wanted_none rfl) ?_
      have d0 : a.eval (.tmp 21) = .int .i64 k1 := haft ⟨4, .data⟩ (by simp [sa10]) rfl
      have d1 : a.eval (.tmp 26) = .int .i64 k2 := haft ⟨9, .data⟩ (by simp [sa10]) rfl
      exact wp_valueZ (v := .bool x1) (w' := X) (by rw [run_neqI rfl d0 d1, hx]) (hKK _ _ r rfl)
    · obtain rfl : sa11 = o := Option.some.inj ho
      refine wpOp_on ho (wanted_none rfl) ?_
      have d0 : a.eval (.tmp 27) = .bool x1 := haft ⟨10, .data⟩ (by simp [sa11]) rfl
      exact wp_valueZ (v := .bool x1) (w' := X) (by simp [execOp, sa11, d0]) (hKK _ _ r rfl)
    · obtain rfl : sa12 = o := Option.some.inj ho
      have dg : a.eval (.tmp 28) = .bool x1 := haft ⟨11, .guard⟩ (by simp [sa12]) rfl
      have hw := wanted_at (ops := saOps) (o := sa12) rfl rfl (by rw [hsz]; decide) dg
      cases hg : x1
      · rw [hg] at hw
        subst hg
        refine wpOp_on ho hw ?_
        exact wp_valueZ (v := .slice (some ⟨b, off, none⟩) L c) (w' := X) (by simp [execOp, sa12, e0]) (hKK _ _ r rfl)
      · rw [hg] at hw
        refine wpOp_off ho hw (hKK undef X r ?_)
        show undef = bif x1 then undef else .slice (some ⟨b, off, none⟩) L c
        rw [hg]; rfl
    · obtain rfl : sa13 = o := Option.some.inj ho
      have dg : a.eval (.tmp 28) = .bool x1 := haft ⟨11, .guard⟩ (by simp [sa13]) rfl
      have hw := wanted_at (ops := saOps) (o := sa13) rfl rfl (by rw [hsz]; decide) dg
      cases hg : x1
      · rw [hg] at hw
        subst hg
        refine wpOp_on ho hw ?_
        exact wp_valueZ (v := .int .i64 (I : Int)) (w' := X) (by simp [execOp, sa13, e5]) (hKK _ _ r rfl)
      · rw [hg] at hw
        refine wpOp_off ho hw (hKK undef X r ?_)
        show undef = bif x1 then undef else .int .i64 (I : Int)
        rw [hg]; rfl
    · obtain rfl : sa14 = o := Option.some.inj ho
      have dg : a.eval (.tmp 28) = .bool x1 := haft ⟨11, .guard⟩ (by simp [sa14]) rfl
      have hw := wanted_at (ops := saOps) (o := sa14) rfl rfl (by rw [hsz]; decide) dg
      cases hg : x1
      · rw [hg] at hw
        subst hg
        refine wpOp_on ho hw ?_
        have d0 : a.eval (.tmp 29) = .slice (some ⟨b, off, none⟩) L c := haft ⟨12, .data⟩ (by simp [sa14]) rfl
        have d1 : a.eval (.tmp 30) = .int .i64 (I : Int) := haft ⟨13, .data⟩ (by simp [sa14]) rfl
        exact wp_valueZ (v := .pointer (some ⟨b, off + I * 3, none⟩)) (w' := X) (by simp [execOp, sa14, d0, d1, idxA hI]) (hKK _ _ r rfl)
      · rw [hg] at hw
        refine wpOp_off ho hw (hKK undef X r ?_)
        show undef = bif x1 then undef else .pointer (some ⟨b, off + I * 3, none⟩)
        rw [hg]; rfl
    · obtain rfl : sa15 = o := Option.some.inj ho
      have dg : a.eval (.tmp 28) = .bool x1 := haft ⟨11, .guard⟩ (by simp [sa15]) rfl
      have hw := wanted_at (ops := saOps) (o := sa15) rfl rfl (by rw [hsz]; decide) dg
      cases hg : x1
      · rw [hg] at hw
        subst hg
        refine wpOp_on ho hw ?_
        have d0 : a.eval (.tmp 31) = .pointer (some ⟨b, off + I * 3, none⟩) := haft ⟨14, .data⟩ (by simp [sa15]) rfl
        exact wp_valueZ (v := .pointer (some ⟨b, off + I * 3 + 1, none⟩)) (w' := X) (by simp [execOp, sa15, d0, fldA1]) (hKK _ _ r rfl)
      · rw [hg] at hw
        refine wpOp_off ho hw (hKK undef X r ?_)
        show undef = bif x1 then undef else .pointer (some ⟨b, off + I * 3 + 1, none⟩)
        rw [hg]; rfl
    · obtain rfl : sa16 = o := Option.some.inj ho
      have dg : a.eval (.tmp 28) = .bool x1 := haft ⟨11, .guard⟩ (by simp [sa16]) rfl
      have hw := wanted_at (ops := saOps) (o := sa16) rfl rfl (by rw [hsz]; decide) dg
      cases hg : x1
      · rw [hg] at hw
        subst hg
        refine wpOp_on ho hw ?_
        have d0 : a.eval (.tmp 32) = .pointer (some ⟨b, off + I * 3 + 1, none⟩) := haft ⟨15, .data⟩ (by simp [sa16]) rfl
        have q := (bl.cell (World.block_lt_of_cell? W _ q3)).trans q3
        exact wp_valueZ (v := o1) (w' := X) (by simp [execOp, sa16, d0, ldS q]) (hKK _ _ r rfl)
      · rw [hg] at hw
        refine wpOp_off ho hw (hKK undef X r ?_)
        show undef = bif x1 then undef else o1
        rw [hg]; rfl
    · obtain rfl : sa17 = o := Option.some.inj ho
      have dg : a.eval (.tmp 28) = .bool x1 := haft ⟨11, .guard⟩ (by simp [sa17]) rfl
      have hw := wanted_at (ops := saOps) (o := sa17) rfl rfl (by rw [hsz]; decide) dg
      cases hg : x1
      · rw [hg] at hw
        subst hg
        refine wpOp_on ho hw ?_
        exact wp_valueZ (v := .slice (some ⟨b2, off2, none⟩) L2 c2) (w' := X) (by simp [execOp, sa17, e1]) (hKK _ _ r rfl)
      · rw [hg] at hw
        refine wpOp_off ho hw (hKK undef X r ?_)
        show undef = bif x1 then undef else .slice (some ⟨b2, off2, none⟩) L2 c2
        rw [hg]; rfl
    · obtain rfl : sa18 = o := Option.some.inj ho
      have dg : a.eval (.tmp 28) = .bool x1 := haft ⟨11, .guard⟩ (by simp [sa18]) rfl
      have hw := wanted_at (ops := saOps) (o := sa18) rfl rfl (by rw [hsz]; decide) dg
      cases hg : x1
      · rw [hg] at hw
        subst hg
        refine wpOp_on ho hw ?_
        exact wp_valueZ (v := .int .i64 (I : Int)) (w' := X) (by simp [execOp, sa18, e5]) (hKK _ _ r rfl)
      · rw [hg] at hw
        refine wpOp_off ho hw (hKK undef X r ?_)
        show undef = bif x1 then undef else .int .i64 (I : Int)
        rw [hg]; rfl
    · obtain rfl : sa19 = o := Option.some.inj ho
      have dg : a.eval (.tmp 28) = .bool x1 := haft ⟨11, .guard⟩ (by simp [sa19]) rfl
      have hw := wanted_at (ops := saOps) (o := sa19) rfl rfl (by rw [hsz]; decide) dg
      cases hg : x1
      · rw [hg] at hw
        subst hg
        refine wpOp_on ho hw ?_
        have d0 : a.eval (.tmp 34) = .slice (some ⟨b2, off2, none⟩) L2 c2 := haft ⟨17, .data⟩ (by simp [sa19]) rfl
        have d1 : a.eval (.tmp 35) = .int .i64 (I : Int) := haft ⟨18, .data⟩ (by simp [sa19]) rfl
        exact wp_valueZ (v := .pointer (some ⟨b2, off2 + I * 3, none⟩)) (w' := X) (by simp [execOp, sa19, d0, d1, idxA hI2]) (hKK _ _ r rfl)
      · rw [hg] at hw
        refine wpOp_off ho hw (hKK undef X r ?_)
        show undef = bif x1 then undef else .pointer (some ⟨b2, off2 + I * 3, none⟩)
        rw [hg]; rfl
    · obtain rfl : sa20 = o := Option.some.inj ho
      have dg : a.eval (.tmp 28) = .bool x1 := haft ⟨11, .guard⟩ (by simp [sa20]) rfl
      have hw := wanted_at (ops := saOps) (o := sa20) rfl rfl (by rw [hsz]; decide) dg
      cases hg : x1
      · rw [hg] at hw
        subst hg
        refine wpOp_on ho hw ?_
        have d0 : a.eval (.tmp 36) = .pointer (some ⟨b2, off2 + I * 3, none⟩) := haft ⟨19, .data⟩ (by simp [sa20]) rfl
        exact wp_valueZ (v := .pointer (some ⟨b2, off2 + I * 3 + 1, none⟩)) (w' := X) (by simp [execOp, sa20, d0, fldA1]) (hKK _ _ r rfl)
      · rw [hg] at hw
        refine wpOp_off ho hw (hKK undef X r ?_)
        show undef = bif x1 then undef else .pointer (some ⟨b2, off2 + I * 3 + 1, none⟩)
        rw [hg]; rfl
    · obtain rfl : sa21 = o := Option.some.inj ho
      have dg : a.eval (.tmp 28) = .bool x1 := haft ⟨11, .guard⟩ (by simp [sa21]) rfl
      have hw := wanted_at (ops := saOps) (o := sa21) rfl rfl (by rw [hsz]; decide) dg
      cases hg : x1
      · rw [hg] at hw
        subst hg
        refine wpOp_on ho hw ?_
        have d0 : a.eval (.tmp 37) = .pointer (some ⟨b2, off2 + I * 3 + 1, none⟩) := haft ⟨20, .data⟩ (by simp [sa21]) rfl
        have q := (bl.cell (World.block_lt_of_cell? W _ q4)).trans q4
        exact wp_valueZ (v := o2) (w' := X) (by simp [execOp, sa21, d0, ldS q]) (hKK _ _ r rfl)
      · rw [hg] at hw
        refine wpOp_off ho hw (hKK undef X r ?_)
        show undef = bif x1 then undef else o2
        rw [hg]; rfl
    · obtain rfl : sa22 = o := Option.some.inj ho
      have dg : a.eval (.tmp 28) = .bool x1 := haft ⟨11, .guard⟩ (by simp [sa22]) rfl
      have hw := wanted_at (ops := saOps) (o := sa22) rfl rfl (by rw [hsz]; decide) dg
      cases hg : x1
      · rw [hg] at hw
        subst hg
        refine wpOp_on ho hw ?_
        have d0 : a.eval (.tmp 33) = o1 := haft ⟨16, .data⟩ (by simp [sa22]) rfl
        have d1 : a.eval (.tmp 38) = o2 := haft ⟨21, .data⟩ (by simp [sa22]) rfl
        refine wp_enterZ (run_call2Z rfl (enters_of Tryd.func13 (by kernel_rfl) rfl) d0 d1) (hc1 X bl) ?_
        rintro e X' ⟨rfl, hb⟩
        exact ⟨_, rfl, hKK _ _ hb rfl⟩
      · rw [hg] at hw
        refine wpOp_off ho hw (hKK undef X r ?_)
        show undef = bif x1 then undef else .bool s1
        rw [hg]; rfl
    · obtain rfl : sa23 = o := Option.some.inj ho
      have dg : a.eval (.tmp 28) = .bool x1 := haft ⟨11, .guard⟩ (by simp [sa23]) rfl
      have hw := wanted_at (ops := saOps) (o := sa23) rfl rfl (by rw [hsz]; decide) dg
      cases hg : x1
      · rw [hg] at hw
        subst hg
        refine wpOp_on ho hw ?_
        have d0 : a.eval (.tmp 39) = .bool s1 := haft ⟨22, .data⟩ (by simp [sa23]) rfl
        exact wp_valueZ (v := .bool (!s1)) (w' := X) (run_not rfl d0) (hKK _ _ r rfl)
      · rw [hg] at hw
        refine wpOp_off ho hw (hKK undef X r ?_)
        show undef = bif x1 then undef else .bool (!s1)
        rw [hg]; rfl
    · obtain rfl : sa24 = o := Option.some.inj ho
      have d0 : a.eval (.tmp 28) = .bool x1 := haft ⟨11, .data⟩ (by simp [sa24]) rfl
      have d1 : a.eval (.tmp 40) = bif x1 then undef else .bool (!s1) := haft ⟨23, .data⟩ (by simp [sa24]) rfl
      refine wpOp_on ho (wanted_none rfl) (wp_valueZ (w' := X) (run_pick rfl d0) (hKK _ _ r ?_))
      show (bif x1 then Value.bool true else a.eval (.tmp 40)) = .bool (x1 || !s1)
      rw [d1]; generalize x1 = g; cases g <;> rfl
    · obtain rfl : sa25 = o := Option.some.inj ho
      refine wpOp_on ho (wanted_none rfl) ?_
      have d0 : a.eval (.tmp 41) = .bool (x1 || !s1) := haft ⟨24, .data⟩ (by simp [sa25]) rfl
      exact wp_valueZ (v := .bool (x1 || !s1)) (w' := X) (by simp [execOp, sa25, d0]) (hKK _ _ r rfl)
    · obtain rfl : sa26 = o := Option.some.inj ho
      have dg : a.eval (.tmp 42) = .bool (x1 || !s1) := haft ⟨25, .guard⟩ (by simp [sa26]) rfl
      have hw := wanted_at (ops := saOps) (o := sa26) rfl rfl (by rw [hsz]; decide) dg
      cases hg : (x1 || !s1)
      · rw [hg] at hw
        obtain ⟨rfl, rfl⟩ : x1 = false ∧ s1 = true := by revert hg; cases x1 <;> cases s1 <;> simp
        refine wpOp_on ho hw ?_
        exact wp_valueZ (v := .slice (some ⟨b, off, none⟩) L c) (w' := X) (by simp [execOp, sa26, e0]) (hKK _ _ r rfl)
      · rw [hg] at hw
        refine wpOp_off ho hw (hKK undef X r ?_)
        show undef = bif (x1 || !s1) then undef else .slice (some ⟨b, off, none⟩) L c
        rw [hg]; rfl
    · obtain rfl : sa27 = o := Option.some.inj ho
      have dg : a.eval (.tmp 42) = .bool (x1 || !s1) := haft ⟨25, .guard⟩ (by simp [sa27]) rfl
      have hw := wanted_at (ops := saOps) (o := sa27) rfl rfl (by rw [hsz]; decide) dg
      cases hg : (x1 || !s1)
      · rw [hg] at hw
        obtain ⟨rfl, rfl⟩ : x1 = false ∧ s1 = true := by revert hg; cases x1 <;> cases s1 <;> simp
        refine wpOp_on ho hw ?_
        exact wp_valueZ (v := .int .i64 (I : Int)) (w' := X) (by simp [execOp, sa27, e5]) (hKK _ _ r rfl)
      · rw [hg] at hw
        refine wpOp_off ho hw (hKK undef X r ?_)
        show undef = bif (x1 || !s1) then undef else .int .i64 (I : Int)
        rw [hg]; rfl
    · obtain rfl : sa28 = o := Option.some.inj ho
      have dg : a.eval (.tmp 42) = .bool (x1 || !s1) := haft ⟨25, .guard⟩ (by simp [sa28]) rfl
      have hw := wanted_at (ops := saOps) (o := sa28) rfl rfl (by rw [hsz]; decide) dg
      cases hg : (x1 || !s1)
      · rw [hg] at hw
        obtain ⟨rfl, rfl⟩ : x1 = false ∧ s1 = true := by revert hg; cases x1 <;> cases s1 <;> simp
        refine wpOp_on ho hw ?_
        have d0 : a.eval (.tmp 43) = .slice (some ⟨b, off, none⟩) L c := haft ⟨26, .data⟩ (by simp [sa28]) rfl
        have d1 : a.eval (.tmp 44) = .int .i64 (I : Int) := haft ⟨27, .data⟩ (by simp [sa28]) rfl
        exact wp_valueZ (v := .pointer (some ⟨b, off + I * 3, none⟩)) (w' := X) (by simp [execOp, sa28, d0, d1, idxA hI]) (hKK _ _ r rfl)
      · rw [hg] at hw
        refine wpOp_off ho hw (hKK undef X r ?_)
        show undef = bif (x1 || !s1) then undef else .pointer (some ⟨b, off + I * 3, none⟩)
        rw [hg]; rfl
    · obtain rfl : sa29 = o := Option.some.inj ho
      have dg : a.eval (.tmp 42) = .bool (x1 || !s1) := haft ⟨25, .guard⟩ (by simp [sa29]) rfl
      have hw := wanted_at (ops := saOps) (o := sa29) rfl rfl (by rw [hsz]; decide) dg
      cases hg : (x1 || !s1)
      · rw [hg] at hw
        obtain ⟨rfl, rfl⟩ : x1 = false ∧ s1 = true := by revert hg; cases x1 <;> cases s1 <;> simp
        refine wpOp_on ho hw ?_
        have d0 : a.eval (.tmp 45) = .pointer (some ⟨b, off + I * 3, none⟩) := haft ⟨28, .data⟩ (by simp [sa29]) rfl
        exact wp_valueZ (v := .pointer (some ⟨b, off + I * 3 + 2, none⟩)) (w' := X) (by simp [execOp, sa29, d0, fldA2]) (hKK _ _ r rfl)
      · rw [hg] at hw
        refine wpOp_off ho hw (hKK undef X r ?_)
        show undef = bif (x1 || !s1) then undef else .pointer (some ⟨b, off + I * 3 + 2, none⟩)
        rw [hg]; rfl
    · obtain rfl : sa30 = o := Option.some.inj ho
      have dg : a.eval (.tmp 42) = .bool (x1 || !s1) := haft ⟨25, .guard⟩ (by simp [sa30]) rfl
      have hw := wanted_at (ops := saOps) (o := sa30) rfl rfl (by rw [hsz]; decide) dg
      cases hg : (x1 || !s1)
      · rw [hg] at hw
        obtain ⟨rfl, rfl⟩ : x1 = false ∧ s1 = true := by revert hg; cases x1 <;> cases s1 <;> simp
        refine wpOp_on ho hw ?_
        have d0 : a.eval (.tmp 46) = .pointer (some ⟨b, off + I * 3 + 2, none⟩) := haft ⟨29, .data⟩ (by simp [sa30]) rfl
        have q := (bl.cell (World.block_lt_of_cell? W _ q5)).trans q5
        exact wp_valueZ (v := w1) (w' := X) (by simp [execOp, sa30, d0, ldS q]) (hKK _ _ r rfl)
      · rw [hg] at hw
        refine wpOp_off ho hw (hKK undef X r ?_)
        show undef = bif (x1 || !s1) then undef else w1
        rw [hg]; rfl
    · obtain rfl : sa31 = o := Option.some.inj ho
      have dg : a.eval (.tmp 42) = .bool (x1 || !s1) := haft ⟨25, .guard⟩ (by simp [sa31]) rfl
      have hw := wanted_at (ops := saOps) (o := sa31) rfl rfl (by rw [hsz]; decide) dg
      cases hg : (x1 || !s1)
      · rw [hg] at hw
        obtain ⟨rfl, rfl⟩ : x1 = false ∧ s1 = true := by revert hg; cases x1 <;> cases s1 <;> simp
        refine wpOp_on ho hw ?_
        exact wp_valueZ (v := .slice (some ⟨b2, off2, none⟩) L2 c2) (w' := X) (by simp [execOp, sa31, e1]) (hKK _ _ r rfl)
      · rw [hg] at hw
        refine wpOp_off ho hw (hKK undef X r ?_)
        show undef = bif (x1 || !s1) then undef else .slice (some ⟨b2, off2, none⟩) L2 c2
        rw [hg]; rfl
    · obtain rfl : sa32 = o := Option.some.inj ho
      have dg : a.eval (.tmp 42) = .bool (x1 || !s1) := haft ⟨25, .guard⟩ (by simp [sa32]) rfl
      have hw := wanted_at (ops := saOps) (o := sa32) rfl rfl (by rw [hsz]; decide) dg
      cases hg : (x1 || !s1)
      · rw [hg] at hw
        obtain ⟨rfl, rfl⟩ : x1 = false ∧ s1 = true := by revert hg; cases x1 <;> cases s1 <;> simp
        refine wpOp_on ho hw ?_
        exact wp_valueZ (v := .int .i64 (I : Int)) (w' := X) (by simp [execOp, sa32, e5]) (hKK _ _ r rfl)
      · rw [hg] at hw
        refine wpOp_off ho hw (hKK undef X r ?_)
        show undef = bif (x1 || !s1) then undef else .int .i64 (I : Int)
        rw [hg]; rfl
    · obtain rfl : sa33 = o := Option.some.inj ho
      have dg : a.eval (.tmp 42) = .bool (x1 || !s1) := haft ⟨25, .guard⟩ (by simp [sa33]) rfl
      have hw := wanted_at (ops := saOps) (o := sa33) rfl rfl (by rw [hsz]; decide) dg
      cases hg : (x1 || !s1)
      · rw [hg] at hw
        obtain ⟨rfl, rfl⟩ : x1 = false ∧ s1 = true := by revert hg; cases x1 <;> cases s1 <;> simp
        refine wpOp_on ho hw ?_
        have d0 : a.eval (.tmp 48) = .slice (some ⟨b2, off2, none⟩) L2 c2 := haft ⟨31, .data⟩ (by simp [sa33]) rfl
        have d1 : a.eval (.tmp 49) = .int .i64 (I : Int) := haft ⟨32, .data⟩ (by simp [sa33]) rfl
        exact wp_valueZ (v := .pointer (some ⟨b2, off2 + I * 3, none⟩)) (w' := X) (by simp [execOp, sa33, d0, d1, idxA hI2]) (hKK _ _ r rfl)
      · rw [hg] at hw
        refine wpOp_off ho hw (hKK undef X r ?_)
        show undef = bif (x1 || !s1) then undef else .pointer (some ⟨b2, off2 + I * 3, none⟩)
        rw [hg]; rfl
    · obtain rfl : sa34 = o := Option.some.inj ho
      have dg : a.eval (.tmp 42) = .bool (x1 || !s1) := haft ⟨25, .guard⟩ (by simp [sa34]) rfl
      have hw := wanted_at (ops := saOps) (o := sa34) rfl rfl (by rw [hsz]; decide) dg
      cases hg : (x1 || !s1)
      · rw [hg] at hw
        obtain ⟨rfl, rfl⟩ : x1 = false ∧ s1 = true := by revert hg; cases x1 <;> cases s1 <;> simp
        refine wpOp_on ho hw ?_
        have d0 : a.eval (.tmp 50) = .pointer (some ⟨b2, off2 + I * 3, none⟩) := haft ⟨33, .data⟩ (by simp [sa34]) rfl
        exact wp_valueZ (v := .pointer (some ⟨b2, off2 + I * 3 + 2, none⟩)) (w' := X) (by simp [execOp, sa34, d0, fldA2]) (hKK _ _ r rfl)
      · rw [hg] at hw
        refine wpOp_off ho hw (hKK undef X r ?_)
        show undef = bif (x1 || !s1) then undef else .pointer (some ⟨b2, off2 + I * 3 + 2, none⟩)
        rw [hg]; rfl
    · obtain rfl : sa35 = o := Option.some.inj ho
      have dg : a.eval (.tmp 42) = .bool (x1 || !s1) := haft ⟨25, .guard⟩ (by simp [sa35]) rfl
      have hw := wanted_at (ops := saOps) (o := sa35) rfl rfl (by rw [hsz]; decide) dg
      cases hg : (x1 || !s1)
      · rw [hg] at hw
        obtain ⟨rfl, rfl⟩ : x1 = false ∧ s1 = true := by revert hg; cases x1 <;> cases s1 <;> simp
        refine wpOp_on ho hw ?_
        have d0 : a.eval (.tmp 51) = .pointer (some ⟨b2, off2 + I * 3 + 2, none⟩) := haft ⟨34, .data⟩ (by simp [sa35]) rfl
        have q := (bl.cell (World.block_lt_of_cell? W _ q6)).trans q6
        exact wp_valueZ (v := w2) (w' := X) (by simp [execOp, sa35, d0, ldS q]) (hKK _ _ r rfl)
      · rw [hg] at hw
        refine wpOp_off ho hw (hKK undef X r ?_)
        show undef = bif (x1 || !s1) then undef else w2
        rw [hg]; rfl
    · obtain rfl : sa36 = o := Option.some.inj ho
      have dg : a.eval (.tmp 42) = .bool (x1 || !s1) := haft ⟨25, .guard⟩ (by simp [sa36]) rfl
      have hw := wanted_at (ops := saOps) (o := sa36) rfl rfl (by rw [hsz]; decide) dg
      cases hg : (x1 || !s1)
      · rw [hg] at hw
        obtain ⟨rfl, rfl⟩ : x1 = false ∧ s1 = true := by revert hg; cases x1 <;> cases s1 <;> simp
        refine wpOp_on ho hw ?_
        have d0 : a.eval (.tmp 47) = w1 := haft ⟨30, .data⟩ (by simp [sa36]) rfl
        have d1 : a.eval (.tmp 52) = w2 := haft ⟨35, .data⟩ (by simp [sa36]) rfl
        refine wp_enterZ (run_call2Z rfl (enters_of Tryd.func13 (by kernel_rfl) rfl) d0 d1) (hc2 X bl) ?_
        rintro e X' ⟨rfl, hb⟩
        exact ⟨_, rfl, hKK _ _ hb rfl⟩
      · rw [hg] at hw
        refine wpOp_off ho hw (hKK undef X r ?_)
        show undef = bif (x1 || !s1) then undef else .bool s2
        rw [hg]; rfl
    · obtain rfl : sa37 = o := Option.some.inj ho
      have dg : a.eval (.tmp 42) = .bool (x1 || !s1) := haft ⟨25, .guard⟩ (by simp [sa37]) rfl
      have hw := wanted_at (ops := saOps) (o := sa37) rfl rfl (by rw [hsz]; decide) dg
      cases hg : (x1 || !s1)
      · rw [hg] at hw
        obtain ⟨rfl, rfl⟩ : x1 = false ∧ s1 = true := by revert hg; cases x1 <;> cases s1 <;> simp
        refine wpOp_on ho hw ?_
        have d0 : a.eval (.tmp 53) = .bool s2 := haft ⟨36, .data⟩ (by simp [sa37]) rfl
        exact wp_valueZ (v := .bool (!s2)) (w' := X) (run_not rfl d0) (hKK _ _ r rfl)
      · rw [hg] at hw
        refine wpOp_off ho hw (hKK undef X r ?_)
        show undef = bif (x1 || !s1) then undef else .bool (!s2)
        rw [hg]; rfl
    · obtain rfl : sa38 = o := Option.some.inj ho
      have d0 : a.eval (.tmp 42) = .bool (x1 || !s1) := haft ⟨25, .data⟩ (by simp [sa38]) rfl
      have d1 : a.eval (.tmp 54) = bif (x1 || !s1) then undef else .bool (!s2) := haft ⟨37, .data⟩ (by simp [sa38]) rfl
      refine wpOp_on ho (wanted_none rfl) (wp_valueZ (w' := X) (run_pick rfl d0) (hKK _ _ r ?_))
      show (bif (x1 || !s1) then Value.bool true else a.eval (.tmp 54)) = .bool ((x1 || !s1) || !s2)
      rw [d1]; generalize (x1 || !s1) = g; cases g <;> rfl
  · intro a X E
    have ea := act_eta a 56 E.sz
    have h55 : a.eval (.tmp 55) = .bool ((x1 || !s1) || !s2) := E.vs 38 (by decide) trivial
    have hq := fin X (a.eval (.tmp 17)) (a.eval (.tmp 18)) (a.eval (.tmp 19)) (a.eval (.tmp 20)) (a.eval (.tmp 21)) (a.eval (.tmp 22)) (a.eval (.tmp 23)) (a.eval (.tmp 24)) (a.eval (.tmp 25)) (a.eval (.tmp 26)) (a.eval (.tmp 27)) (a.eval (.tmp 28)) (a.eval (.tmp 29)) (a.eval (.tmp 30)) (a.eval (.tmp 31)) (a.eval (.tmp 32)) (a.eval (.tmp 33)) (a.eval (.tmp 34)) (a.eval (.tmp 35)) (a.eval (.tmp 36)) (a.eval (.tmp 37)) (a.eval (.tmp 38)) (a.eval (.tmp 39)) (a.eval (.tmp 40)) (a.eval (.tmp 41)) (a.eval (.tmp 42)) (a.eval (.tmp 43)) (a.eval (.tmp 44)) (a.eval (.tmp 45)) (a.eval (.tmp 46)) (a.eval (.tmp 47)) (a.eval (.tmp 48)) (a.eval (.tmp 49)) (a.eval (.tmp 50)) (a.eval (.tmp 51)) (a.eval (.tmp 52)) (a.eval (.tmp 53)) (a.eval (.tmp 54)) E.bl
    rw [ea, E.df]
    have g0 : a.eval (.tmp 0) = .slice (some ⟨b, off, none⟩) L c := E.ag 0 (by decide)
    have g1 : a.eval (.tmp 1) = .slice (some ⟨b2, off2, none⟩) L2 c2 := E.ag 1 (by decide)
    have g2 : a.eval (.tmp 2) = t2 := E.ag 2 (by decide)
    have g3 : a.eval (.tmp 3) = t3 := E.ag 3 (by decide)
    have g4 : a.eval (.tmp 4) = t4 := E.ag 4 (by decide)
    have g5 : a.eval (.tmp 5) = .int .i64 (I : Int) := E.ag 5 (by decide)
    have g6 : a.eval (.tmp 6) = t6 := E.ag 6 (by decide)
    have g7 : a.eval (.tmp 7) = t7 := E.ag 7 (by decide)
    have g8 : a.eval (.tmp 8) = t8 := E.ag 8 (by decide)
    have g9 : a.eval (.tmp 9) = t9 := E.ag 9 (by decide)
    have g10 : a.eval (.tmp 10) = t10 := E.ag 10 (by decide)
    have g11 : a.eval (.tmp 11) = t11 := E.ag 11 (by decide)
    have g12 : a.eval (.tmp 12) = t12 := E.ag 12 (by decide)
    have g13 : a.eval (.tmp 13) = t13 := E.ag 13 (by decide)
    have g14 : a.eval (.tmp 14) = t14 := E.ag 14 (by decide)
    have g15 : a.eval (.tmp 15) = t15 := E.ag 15 (by decide)
    have g16 : a.eval (.tmp 16) = t16 := E.ag 16 (by decide)
    rw [← h55, ← g2, ← g3, ← g4, ← g6, ← g7, ← g8, ← g9, ← g10, ← g11, ← g12, ← g13, ← g14, ← g15, ← g16] at hq
    rw [← g0, ← g1, ← g5] at hq
    exact hq

end Go.Proofs.YtagoilabphmdfaaDoor
