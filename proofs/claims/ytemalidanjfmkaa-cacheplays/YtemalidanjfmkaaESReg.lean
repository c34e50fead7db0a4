/-
  One round of the reference's Same of layer 10: a statement whose order is open, two of its parts guarded.
-/
import Derived.Test.YtemalidanjfmkaaESame
import Derived.Test.YtemalidanjfmkaaK27
import Derived.Shelf.Abstract
namespace Go.Proofs.Ytemalidanjfmkaa
open Go.RowKit

theorem ldI {w : World} {b k : Nat} {v : Value} (h : w.cell? ⟨b, k, none⟩ = some v) : (Instr.loadAt 3 (.pointer (some ⟨b, k, none⟩))).run Try.prog w = .ok v w := by
  go_simp
theorem ldS {w : World} {b k : Nat} {v : Value} (h : w.cell? ⟨b, k, none⟩ = some v) : (Instr.loadAt 29 (.pointer (some ⟨b, k, none⟩))).run Try.prog w = .ok v w := by
  go_simp
theorem fldA0 {w : World} {b k : Nat} : (Instr.fieldAt 79 (.pointer (some ⟨b, k, none⟩)) 0).run Try.prog w = .ok (.pointer (some ⟨b, k, none⟩)) w := by go_simp
theorem fldA1 {w : World} {b k : Nat} : (Instr.fieldAt 79 (.pointer (some ⟨b, k, none⟩)) 1).run Try.prog w = .ok (.pointer (some ⟨b, k + 1, none⟩)) w := by go_simp
theorem fldA2 {w : World} {b k : Nat} : (Instr.fieldAt 79 (.pointer (some ⟨b, k, none⟩)) 2).run Try.prog w = .ok (.pointer (some ⟨b, k + 2, none⟩)) w := by go_simp
theorem run_neqI {a : Act} {o : Oper} {x y : Operand} {X Y : Int} {w : World} (ho : o.op = .binOp .neq 3 x y 3) (hx : a.eval x = .int .i64 X) (hy : a.eval y = .int .i64 Y) : (execOp a.eval o).run Try.prog w = .ok (.value (.bool (X != Y))) w := by
  have h3 : (binOp .neq 3 (.int .i64 X) (.int .i64 Y)).run Try.prog w = .ok (.bool (X != Y)) w := by go_simp
  simp only [execOp, ho, hx, hy, eqGuard]
  simp [h3, Result.andThen]
theorem run_not {a : Act} {o : Oper} {x : Operand} {X : Bool} {w : World} (ho : o.op = .unOp .not 4 x) (hx : a.eval x = .bool X) : (execOp a.eval o).run Try.prog w = .ok (.value (.bool (!X))) w := by
  simp only [execOp, ho, hx]
  go_simp
theorem run_pick {a : Act} {o : Oper} {x y z : Operand} {X : Bool} {w : World} (ho : o.op = .pick x y z) (hx : a.eval x = .bool X) : (execOp a.eval o).run Try.prog w = .ok (.value (bif X then a.eval y else a.eval z)) w := by
  cases X <;> simp [execOp, ho, hx, asBool]
theorem act_eta (a : Act) (n : Nat) (h : a.tmps.size = n) : a = ⟨((List.range n).map fun t => a.eval (.tmp t)).toArray, a.defers⟩ := by
  obtain ⟨xs, ds⟩ := a
  congr 1
  refine Array.ext (by simp [← h]) fun i h1 h2 => ?_
  simp [Act.eval, h1]
/-- Each operation yields one value. -/
abbrev TVg (vs : List Value) (i : Nat) (v : Value) (_ : World) : Prop := v = vs.getD i undef

def sa1 : Oper := { dst := some 18, op := Op.move (Operand.tmp 5), type := 3, pos := "ref.go:168", after := #[], guard := none }
def sa3 : Oper := { dst := some 20, op := Op.fieldAddr 79 (Operand.tmp 19) 0, type := 0, pos := "ref.go:168", after := #[{ on := 2, ground := Ground.data }], guard := none }
def sa4 : Oper := { dst := some 21, op := Op.load 3 (Operand.tmp 20), type := 3, pos := "ref.go:168", after := #[{ on := 3, ground := Ground.data }], guard := none }
def sa6 : Oper := { dst := some 23, op := Op.move (Operand.tmp 5), type := 3, pos := "ref.go:168", after := #[], guard := none }
def sa8 : Oper := { dst := some 25, op := Op.fieldAddr 79 (Operand.tmp 24) 0, type := 0, pos := "ref.go:168", after := #[{ on := 7, ground := Ground.data }], guard := none }
def sa9 : Oper := { dst := some 26, op := Op.load 3 (Operand.tmp 25), type := 3, pos := "ref.go:168", after := #[{ on := 8, ground := Ground.data }], guard := none }
def sa10 : Oper := { dst := some 27, op := Op.binOp BinOp.neq 3 (Operand.tmp 21) (Operand.tmp 26) 3, type := 4, pos := "ref.go:168", after := #[{ on := 4, ground := Ground.data }, { on := 9, ground := Ground.data }], guard := none }
def sa11 : Oper := { dst := some 28, op := Op.move (Operand.tmp 27), type := 4, pos := "ref.go:168", after := #[{ on := 10, ground := Ground.data }], guard := none }
def sa13 : Oper := { dst := some 30, op := Op.move (Operand.tmp 5), type := 3, pos := "ref.go:168", after := #[{ on := 11, ground := Ground.guard }], guard := some (11, false) }
def sa15 : Oper := { dst := some 32, op := Op.fieldAddr 79 (Operand.tmp 31) 1, type := 0, pos := "ref.go:168", after := #[{ on := 14, ground := Ground.data }, { on := 11, ground := Ground.guard }], guard := some (11, false) }
def sa16 : Oper := { dst := some 33, op := Op.load 29 (Operand.tmp 32), type := 29, pos := "ref.go:168", after := #[{ on := 15, ground := Ground.data }, { on := 11, ground := Ground.guard }], guard := some (11, false) }
def sa18 : Oper := { dst := some 35, op := Op.move (Operand.tmp 5), type := 3, pos := "ref.go:168", after := #[{ on := 11, ground := Ground.guard }], guard := some (11, false) }
def sa20 : Oper := { dst := some 37, op := Op.fieldAddr 79 (Operand.tmp 36) 1, type := 0, pos := "ref.go:168", after := #[{ on := 19, ground := Ground.data }, { on := 11, ground := Ground.guard }], guard := some (11, false) }
def sa21 : Oper := { dst := some 38, op := Op.load 29 (Operand.tmp 37), type := 29, pos := "ref.go:168", after := #[{ on := 20, ground := Ground.data }, { on := 11, ground := Ground.guard }], guard := some (11, false) }
def sa22 : Oper := { dst := some 39, op := Op.call { callee := Callee.value (Operand.func 19), args := #[Operand.tmp 33, Operand.tmp 38], argTypes := #[29, 29] }, type := 4, pos := "ref.go:168", after := #[{ on := 16, ground := Ground.data }, { on := 21, ground := Ground.data }, { on := 11, ground := Ground.chain }, { on := 11, ground := Ground.guard }], guard := some (11, false) }
def sa23 : Oper := { dst := some 40, op := Op.unOp UnOp.not 4 (Operand.tmp 39), type := 4, pos := "ref.go:168", after := #[{ on := 22, ground := Ground.data }, { on := 11, ground := Ground.guard }], guard := some (11, false) }
def sa24 : Oper := { dst := some 41, op := Op.pick (Operand.tmp 28) (Operand.const (Value.bool true)) (Operand.tmp 40), type := 4, pos := "ref.go:168", after := #[{ on := 11, ground := Ground.data }, { on := 23, ground := Ground.data }], guard := none }
def sa25 : Oper := { dst := some 42, op := Op.move (Operand.tmp 41), type := 4, pos := "ref.go:168", after := #[{ on := 24, ground := Ground.data }, { on := 22, ground := Ground.chain }], guard := none }
def sa27 : Oper := { dst := some 44, op := Op.move (Operand.tmp 5), type := 3, pos := "ref.go:168", after := #[{ on := 25, ground := Ground.guard }], guard := some (25, false) }
def sa29 : Oper := { dst := some 46, op := Op.fieldAddr 79 (Operand.tmp 45) 2, type := 0, pos := "ref.go:168", after := #[{ on := 28, ground := Ground.data }, { on := 25, ground := Ground.guard }], guard := some (25, false) }
def sa30 : Oper := { dst := some 47, op := Op.load 29 (Operand.tmp 46), type := 29, pos := "ref.go:168", after := #[{ on := 29, ground := Ground.data }, { on := 25, ground := Ground.guard }], guard := some (25, false) }
def sa32 : Oper := { dst := some 49, op := Op.move (Operand.tmp 5), type := 3, pos := "ref.go:168", after := #[{ on := 25, ground := Ground.guard }], guard := some (25, false) }
def sa34 : Oper := { dst := some 51, op := Op.fieldAddr 79 (Operand.tmp 50) 2, type := 0, pos := "ref.go:168", after := #[{ on := 33, ground := Ground.data }, { on := 25, ground := Ground.guard }], guard := some (25, false) }
def sa35 : Oper := { dst := some 52, op := Op.load 29 (Operand.tmp 51), type := 29, pos := "ref.go:168", after := #[{ on := 34, ground := Ground.data }, { on := 25, ground := Ground.guard }], guard := some (25, false) }
def sa36 : Oper := { dst := some 53, op := Op.call { callee := Callee.value (Operand.func 19), args := #[Operand.tmp 47, Operand.tmp 52], argTypes := #[29, 29] }, type := 4, pos := "ref.go:168", after := #[{ on := 30, ground := Ground.data }, { on := 35, ground := Ground.data }, { on := 25, ground := Ground.chain }, { on := 25, ground := Ground.guard }], guard := some (25, false) }
def sa37 : Oper := { dst := some 54, op := Op.unOp UnOp.not 4 (Operand.tmp 53), type := 4, pos := "ref.go:168", after := #[{ on := 36, ground := Ground.data }, { on := 25, ground := Ground.guard }], guard := some (25, false) }
def sa38 : Oper := { dst := some 55, op := Op.pick (Operand.tmp 42) (Operand.const (Value.bool true)) (Operand.tmp 54), type := 4, pos := "ref.go:168", after := #[{ on := 25, ground := Ground.data }, { on := 37, ground := Ground.data }], guard := none }
end Go.Proofs.Ytemalidanjfmkaa
