/-
  Some texts of this seat, one behind the other.
-/
import Derived.Deep.RegionLaw
import Derived.Laws.CopyRow
import Derived.Lib.AppendZerosOnto
import Derived.Lib.Overlaps
import Derived.Maps.AppendAt
import Derived.Shelf.Abstract
import Derived.Test.YtepmdnggiajkbaaJAct
import Derived.Test.YtepmdnggiajkbaaK27
import Derived.Test.YtepmdnggiajkbaaK35
import Derived.Test.YtepmdnggiajkbaaK36
/-
  A statement of the program's table whose order is open: two rows of cells are made and held against each other.
-/
namespace Go.Proofs.Ytepmdnggiajkbaa
set_option linter.unusedVariables false
open Go.RowKit

theorem run_call3Z {P : Program} {a : Act} {o : Oper} {f : Nat} {x y z : Operand} {ts : Array TypeId} {u v u' : Value} {w : World} (ho : o.op = .call { callee := .value (.func f), args := #[x, y, z], argTypes := ts }) (hen : ∀ args w, (callFunc f args).run P w = .ok (.enter f args) w) (hx : a.eval x = u) (hy : a.eval y = v) (hz : a.eval z = u') : (execOp a.eval o).run P w = .ok (.enter f #[u, v, u']) w := by
  have ef : a.eval (.func f) = .func (.func f) #[] #[] := rfl
  simp [execOp, ho, ef, hx, hy, hz, resolve, invoke, Deferred.ofValue, hen]
theorem fldT7 {w : World} {b : Nat} : (Instr.fieldAt 62 (.pointer (some ⟨b, 0, none⟩)) 7).run Try.prog w = .ok (.pointer (some ⟨b, 7, none⟩)) w := by go_simp
theorem ldTs {w : World} {b k : Nat} {v : Value} (h : w.cell? ⟨b, k, none⟩ = some v) : (Instr.loadAt 59 (.pointer (some ⟨b, k, none⟩))).run Try.prog w = .ok v w := by
  go_simp
def td0 : Oper := { dst := some 44, op := Op.move (Operand.tmp 0), type := 23, pos := "line.go:201", after := #[], guard := none }
def td1 : Oper := { dst := some 45, op := Op.move (Operand.tmp 9), type := 3, pos := "line.go:201", after := #[], guard := none }
def td2 : Oper := { dst := some 46, op := Op.move (Operand.tmp 0), type := 23, pos := "line.go:201", after := #[], guard := none }
def td3 : Oper := { dst := some 47, op := Op.nilCheck (Operand.tmp 46), type := 0, pos := "line.go:201", after := #[{ on := 2, ground := Ground.data }], guard := none }
def td4 : Oper := { dst := some 48, op := Op.fieldAddr 62 (Operand.tmp 47) 7, type := 0, pos := "line.go:201", after := #[{ on := 3, ground := Ground.data }], guard := none }
def td5 : Oper := { dst := some 49, op := Op.load 59 (Operand.tmp 48), type := 59, pos := "line.go:201", after := #[{ on := 4, ground := Ground.data }], guard := none }
def td6 : Oper := { dst := some 50, op := Op.call { callee := Callee.builtin Builtin.len, args := #[Operand.tmp 49], argTypes := #[59] }, type := 3, pos := "line.go:201", after := #[{ on := 5, ground := Ground.data }], guard := none }
def td7 : Oper := { dst := some 51, op := Op.call { callee := Callee.value (Operand.func 54), args := #[Operand.tmp 44, Operand.tmp 45, Operand.tmp 50], argTypes := #[23, 3, 3] }, type := 100, pos := "line.go:201", after := #[{ on := 0, ground := Ground.data }, { on := 1, ground := Ground.data }, { on := 6, ground := Ground.data }], guard := none }
def td8 : Oper := { dst := some 52, op := Op.move (Operand.tmp 0), type := 23, pos := "line.go:201", after := #[], guard := none }
def td9 : Oper := { dst := some 53, op := Op.move (Operand.tmp 10), type := 3, pos := "line.go:201", after := #[], guard := none }
def td10 : Oper := { dst := some 54, op := Op.move (Operand.tmp 0), type := 23, pos := "line.go:201", after := #[], guard := none }
def td11 : Oper := { dst := some 55, op := Op.nilCheck (Operand.tmp 54), type := 0, pos := "line.go:201", after := #[{ on := 10, ground := Ground.data }], guard := none }
def td12 : Oper := { dst := some 56, op := Op.fieldAddr 62 (Operand.tmp 55) 7, type := 0, pos := "line.go:201", after := #[{ on := 11, ground := Ground.data }], guard := none }
def td13 : Oper := { dst := some 57, op := Op.load 59 (Operand.tmp 56), type := 59, pos := "line.go:201", after := #[{ on := 12, ground := Ground.data }], guard := none }
def td14 : Oper := { dst := some 58, op := Op.call { callee := Callee.builtin Builtin.len, args := #[Operand.tmp 57], argTypes := #[59] }, type := 3, pos := "line.go:201", after := #[{ on := 13, ground := Ground.data }], guard := none }
def td15 : Oper := { dst := some 59, op := Op.call { callee := Callee.value (Operand.func 54), args := #[Operand.tmp 52, Operand.tmp 53, Operand.tmp 58], argTypes := #[23, 3, 3] }, type := 100, pos := "line.go:201", after := #[{ on := 8, ground := Ground.data }, { on := 9, ground := Ground.data }, { on := 14, ground := Ground.data }, { on := 7, ground := Ground.chain }], guard := none }
def td16 : Oper := { dst := some 60, op := Op.call { callee := Callee.value (Operand.func 72), args := #[Operand.tmp 51, Operand.tmp 59], argTypes := #[100, 100] }, type := 3, pos := "line.go:201", after := #[{ on := 7, ground := Ground.data }, { on := 15, ground := Ground.data }, { on := 15, ground := Ground.chain }], guard := none }
def td17 : Oper := { dst := some 11, op := Op.assign (Operand.tmp 60), type := 3, pos := "line.go:201", after := #[{ on := 16, ground := Ground.data }, { on := 16, ground := Ground.chain }, { on := 0, ground := Ground.phase }, { on := 1, ground := Ground.phase }, { on := 2, ground := Ground.phase }, { on := 3, ground := Ground.phase }, { on := 4, ground := Ground.phase }, { on := 5, ground := Ground.phase }, { on := 6, ground := Ground.phase }, { on := 7, ground := Ground.phase }, { on := 8, ground := Ground.phase }, { on := 9, ground := Ground.phase }, { on := 10, ground := Ground.phase }, { on := 11, ground := Ground.phase }, { on := 12, ground := Ground.phase }, { on := 13, ground := Ground.phase }, { on := 14, ground := Ground.phase }, { on := 15, ground := Ground.phase }, { on := 16, ground := Ground.phase }], guard := none }
def tdOps : Array Oper := #[td0, td1, td2, td3, td4, td5, td6, td7, td8, td9, td10, td11, td12, td13, td14, td15, td16, td17]

def tdT (B b n1 n2 C : Nat) (ac : Option Addr) (cc : Nat) (A1 A2 : List (List Int)) (N : Nat) : Nat → Value → World → Prop
  | 0, v, _ => v = .pointer (some ⟨b, 0, none⟩)
  | 1, v, _ => v = .int .i64 (n1 : Int)
  | 2, v, _ => v = .pointer (some ⟨b, 0, none⟩)
  | 3, v, _ => v = .pointer (some ⟨b, 0, none⟩)
  | 4, v, _ => v = .pointer (some ⟨b, 7, none⟩)
  | 5, v, _ => v = .slice ac C cc
  | 6, v, _ => v = .int .i64 (C : Int)
  | 7, v, W => OwnG 73 1 spE W B v A1
  | 8, v, _ => v = .pointer (some ⟨b, 0, none⟩)
  | 9, v, _ => v = .int .i64 (n2 : Int)
  | 10, v, _ => v = .pointer (some ⟨b, 0, none⟩)
  | 11, v, _ => v = .pointer (some ⟨b, 0, none⟩)
  | 12, v, _ => v = .pointer (some ⟨b, 7, none⟩)
  | 13, v, _ => v = .slice ac C cc
  | 14, v, _ => v = .int .i64 (C : Int)
  | 15, v, W => OwnG 73 1 spE W B v A2
  | 16, v, _ => v = .int .i64 (N : Int)
  | 17, v, _ => v = .int .i64 (N : Int)
  | _, _, _ => True
theorem tdT_below (B b n1 n2 C : Nat) (ac : Option Addr) (cc : Nat) (A1 A2 : List (List Int)) (N : Nat) {v : Value} {W W' : World} (hb : Below W.heap.size W W') : ∀ {i : Nat}, tdT B b n1 n2 C ac cc A1 A2 N i v W → tdT B b n1 n2 C ac cc A1 A2 N i v W'
  | 0, h => h
  | 1, h => h
  | 2, h => h
  | 3, h => h
  | 4, h => h
  | 5, h => h
  | 6, h => h
  | 7, h => OwnG.below h hb
  | 8, h => h
  | 9, h => h
  | 10, h => h
  | 11, h => h
  | 12, h => h
  | 13, h => h
  | 14, h => h
  | 15, h => OwnG.below h hb
  | 16, h => h
  | 17, h => h
  | _ + 18, h => h
set_option maxRecDepth 100000 in
set_option maxHeartbeats 1000000 in
theorem td_ok : okG tdOps [44, 45, 46, 47, 48, 49, 50, 51, 52, 53, 54, 55, 56, 57, 58, 59, 60, 11] = true := by kernel_rfl
set_option maxRecDepth 100000 in
set_option maxHeartbeats 8000000 in
theorem td_core {Q : Exit → Act → World → Prop} (W : World) (B b n1 n2 C : Nat) (ac : Option Addr) (cc : Nat) (A1 A2 : List (List Int)) (N : Nat) (a0 : Act) (hs0 : a0.tmps.size = 72) (eY0 : a0.eval (.tmp 0) = .pointer (some ⟨b, 0, none⟩)) (eY9 : a0.eval (.tmp 9) = .int .i64 (n1 : Int)) (eY10 : a0.eval (.tmp 10) = .int .i64 (n2 : Int))
    (h7 : W.cell? ⟨b, 7, none⟩ = some (.slice ac C cc))
    (hc1 : ∀ X, Below W.heap.size W X → Calls Try.prog 54 #[.pointer (some ⟨b, 0, none⟩), .int .i64 (n1 : Int), .int .i64 (C : Int)] X fun e X' => ∃ v, e = .returned v ∧ OwnG 73 1 spE X' B v A1 ∧ Below X.heap.size X X')
    (hc2 : ∀ X, Below W.heap.size W X → Calls Try.prog 54 #[.pointer (some ⟨b, 0, none⟩), .int .i64 (n2 : Int), .int .i64 (C : Int)] X fun e X' => ∃ v, e = .returned v ∧ OwnG 73 1 spE X' B v A2 ∧ Below X.heap.size X X')
    (hcm : ∀ X v u, OwnG 73 1 spE X B v A1 → OwnG 73 1 spE X B u A2 → Calls Try.prog 72 #[v, u] X fun e X' => e = .returned (.int .i64 (N : Int)) ∧ Below X.heap.size X X')
    (fin : ∀ a X, EInv a0 W 18 (fun i => [44, 45, 46, 47, 48, 49, 50, 51, 52, 53, 54, 55, 56, 57, 58, 59, 60, 11].getD i 0) (tdT B b n1 n2 C ac cc A1 A2 N) (fun _ => True) a X → Q .normal a X) :
    (Code.region 6 tdOps true).wp Try.prog Q a0 W := by
  refine wp_region_guard (by kernel_rfl) a0 W 18 (fun i => [44, 45, 46, 47, 48, 49, 50, 51, 52, 53, 54, 55, 56, 57, 58, 59, 60, 11].getD i 0) (tdT B b n1 n2 C ac cc A1 A2 N) rfl (fun _ _ _ _ h hb => tdT_below B b n1 n2 C ac cc A1 A2 N hb h) (by decide) (fun i hi => by rw [hs0]; exact (show ∀ i, i < 18 → [44, 45, 46, 47, 48, 49, 50, 51, 52, 53, 54, 55, 56, 57, 58, 59, 60, 11].getD i 0 < 72 by decide) i hi) (hdG_of td_ok) ?_ fin
  intro j o ho a X E haft KK hKK
  have hj : j < 18 := (Array.getElem?_eq_some_iff.1 ho).1
  have hsz : a.tmps.size = 72 := E.sz.trans hs0
  have fY0 : a.eval (.tmp 0) = .pointer (some ⟨b, 0, none⟩) := (E.ag 0 (by decide)).trans eY0
  have fY9 : a.eval (.tmp 9) = .int .i64 (n1 : Int) := (E.ag 9 (by decide)).trans eY9
  have fY10 : a.eval (.tmp 10) = .int .i64 (n2 : Int) := (E.ag 10 (by decide)).trans eY10
  have r := Below.refl X.heap.size X
  have bl := E.bl
  clear E fin
  rcases (by omega : j = 0 ∨ j = 1 ∨ j = 2 ∨ j = 3 ∨ j = 4 ∨ j = 5 ∨ j = 6 ∨ j = 7 ∨ j = 8 ∨ j = 9 ∨ j = 10 ∨ j = 11 ∨ j = 12 ∨ j = 13 ∨ j = 14 ∨ j = 15 ∨ j = 16 ∨ j = 17) with rfl | rfl | rfl | rfl | rfl | rfl | rfl | rfl | rfl | rfl | rfl | rfl | rfl | rfl | rfl | rfl | rfl | rfl
  · obtain rfl : td0 = o := Option.some.inj ho
    refine wpOp_on ho (wanted_none rfl) ?_
    exact wp_valueZ (v := .pointer (some ⟨b, 0, none⟩)) (w' := X) (by simp [execOp, td0, fY0]) (hKK _ _ r rfl)
  · obtain rfl : td1 = o := Option.some.inj ho
    refine wpOp_on ho (wanted_none rfl) ?_
    exact wp_valueZ (v := .int .i64 (n1 : Int)) (w' := X) (by simp [execOp, td1, fY9]) (hKK _ _ r rfl)
  · obtain rfl : td2 = o := Option.some.inj ho
    refine wpOp_on ho (wanted_none rfl) ?_
    exact wp_valueZ (v := .pointer (some ⟨b, 0, none⟩)) (w' := X) (by simp [execOp, td2, fY0]) (hKK _ _ r rfl)
  · obtain rfl : td3 = o := Option.some.inj ho
    refine wpOp_on ho (wanted_none rfl) ?_
    have d0 : a.eval (.tmp 46) = .pointer (some ⟨b, 0, none⟩) := haft ⟨2, .data⟩ (by simp [td3]) rfl
    exact wp_valueZ (v := .pointer (some ⟨b, 0, none⟩)) (w' := X) (by simp [execOp, td3, d0]) (hKK _ _ r rfl)
  · obtain rfl : td4 = o := Option.some.inj ho
    refine wpOp_on ho (wanted_none rfl) ?_
    have d0 : a.eval (.tmp 47) = .pointer (some ⟨b, 0, none⟩) := haft ⟨3, .data⟩ (by simp [td4]) rfl
    exact wp_valueZ (v := .pointer (some ⟨b, 7, none⟩)) (w' := X) (by simp [execOp, td4, d0, fldT7]) (hKK _ _ r rfl)
  · obtain rfl : td5 = o := Option.some.inj ho
    refine wpOp_on ho (wanted_none rfl) ?_
    have d0 : a.eval (.tmp 48) = .pointer (some ⟨b, 7, none⟩) := haft ⟨4, .data⟩ (by simp [td5]) rfl
    have q := (bl.cell (p := ⟨b, 7, none⟩) (World.block_lt_of_cell? W _ h7)).trans h7
    exact wp_valueZ (v := .slice ac C cc) (w' := X) (by simp [execOp, td5, d0, ldTs q]) (hKK _ _ r rfl)
  · obtain rfl : td6 = o := Option.some.inj ho
    refine wpOp_on ho (wanted_none rfl) ?_
    have d0 : a.eval (.tmp 49) = .slice ac C cc := haft ⟨5, .data⟩ (by simp [td6]) rfl
    exact wp_valueZ (v := .int .i64 (C : Int)) (w' := X) (by simp [execOp, td6, resolve, invoke, builtin, d0]; go_simp) (hKK _ _ r rfl)
  · obtain rfl : td7 = o := Option.some.inj ho
    refine wpOp_on ho (wanted_none rfl) ?_
    have d0 := haft ⟨0, .data⟩ (by simp [td7]) rfl
    have d1 := haft ⟨1, .data⟩ (by simp [td7]) rfl
    have d2 := haft ⟨6, .data⟩ (by simp [td7]) rfl
    refine wp_enterZ (run_call3Z rfl (enters_of Try.func54 (by kernel_rfl) rfl) d0 d1 d2) (hc1 X bl) ?_
    rintro e X' ⟨v, rfl, hv, hb⟩
    exact ⟨_, rfl, hKK _ _ hb hv⟩
  · obtain rfl : td8 = o := Option.some.inj ho
    refine wpOp_on ho (wanted_none rfl) ?_
    exact wp_valueZ (v := .pointer (some ⟨b, 0, none⟩)) (w' := X) (by simp [execOp, td8, fY0]) (hKK _ _ r rfl)
  · obtain rfl : td9 = o := Option.some.inj ho
    refine wpOp_on ho (wanted_none rfl) ?_
    exact wp_valueZ (v := .int .i64 (n2 : Int)) (w' := X) (by simp [execOp, td9, fY10]) (hKK _ _ r rfl)
  · obtain rfl : td10 = o := Option.some.inj ho
    refine wpOp_on ho (wanted_none rfl) ?_
    exact wp_valueZ (v := .pointer (some ⟨b, 0, none⟩)) (w' := X) (by simp [execOp, td10, fY0]) (hKK _ _ r rfl)
  · obtain rfl : td11 = o := Option.some.inj ho
    refine wpOp_on ho (wanted_none rfl) ?_
    have d0 : a.eval (.tmp 54) = .pointer (some ⟨b, 0, none⟩) := haft ⟨10, .data⟩ (by simp [td11]) rfl
    exact wp_valueZ (v := .pointer (some ⟨b, 0, none⟩)) (w' := X) (by simp [execOp, td11, d0]) (hKK _ _ r rfl)
  · obtain rfl : td12 = o := Option.some.inj ho
    refine wpOp_on ho (wanted_none rfl) ?_
    have d0 : a.eval (.tmp 55) = .pointer (some ⟨b, 0, none⟩) := haft ⟨11, .data⟩ (by simp [td12]) rfl
    exact wp_valueZ (v := .pointer (some ⟨b, 7, none⟩)) (w' := X) (by simp [execOp, td12, d0, fldT7]) (hKK _ _ r rfl)
  · obtain rfl : td13 = o := Option.some.inj ho
    refine wpOp_on ho (wanted_none rfl) ?_
    have d0 : a.eval (.tmp 56) = .pointer (some ⟨b, 7, none⟩) := haft ⟨12, .data⟩ (by simp [td13]) rfl
    have q := (bl.cell (p := ⟨b, 7, none⟩) (World.block_lt_of_cell? W _ h7)).trans h7
    exact wp_valueZ (v := .slice ac C cc) (w' := X) (by simp [execOp, td13, d0, ldTs q]) (hKK _ _ r rfl)
  · obtain rfl : td14 = o := Option.some.inj ho
    refine wpOp_on ho (wanted_none rfl) ?_
    have d0 : a.eval (.tmp 57) = .slice ac C cc := haft ⟨13, .data⟩ (by simp [td14]) rfl
    exact wp_valueZ (v := .int .i64 (C : Int)) (w' := X) (by simp [execOp, td14, resolve, invoke, builtin, d0]; go_simp) (hKK _ _ r rfl)
  · obtain rfl : td15 = o := Option.some.inj ho
    refine wpOp_on ho (wanted_none rfl) ?_
    have d0 := haft ⟨8, .data⟩ (by simp [td15]) rfl
    have d1 := haft ⟨9, .data⟩ (by simp [td15]) rfl
    have d2 := haft ⟨14, .data⟩ (by simp [td15]) rfl
    refine wp_enterZ (run_call3Z rfl (enters_of Try.func54 (by kernel_rfl) rfl) d0 d1 d2) (hc2 X bl) ?_
    rintro e X' ⟨v, rfl, hv, hb⟩
    exact ⟨_, rfl, hKK _ _ hb hv⟩
  · obtain rfl : td16 = o := Option.some.inj ho
    refine wpOp_on ho (wanted_none rfl) ?_
    have d0 := haft ⟨7, .data⟩ (by simp [td16]) rfl
    have d1 := haft ⟨15, .data⟩ (by simp [td16]) rfl
    refine wp_enterZ (run_call2Z rfl (enters_of Try.func72 (by kernel_rfl) rfl) rfl rfl) (hcm X _ _ d0 d1) ?_
    rintro e X' ⟨rfl, hb⟩
    exact ⟨_, rfl, hKK _ _ hb rfl⟩
  · obtain rfl : td17 = o := Option.some.inj ho
    refine wpOp_on ho (wanted_none rfl) ?_
    have d0 : a.eval (.tmp 60) = .int .i64 (N : Int) := haft ⟨16, .data⟩ (by simp [td17]) rfl
    exact wp_valueZ (v := .int .i64 (N : Int)) (w' := X) (by simp [execOp, td17, d0]) (hKK _ _ r rfl)
set_option maxRecDepth 100000 in
set_option maxHeartbeats 8000000 in
theorem td_region {Q : Exit → Act → World → Prop} (W : World) (B b n1 n2 C : Nat) (ac : Option Addr) (cc : Nat) (A1 A2 : List (List Int)) (N : Nat) (ds : List Deferred) (t1 t2 t3 t4 t5 t6 t7 t8 t11 t12 t13 t14 t15 t16 t17 t18 t19 t20 t21 t22 t23 t24 t25 t26 t27 t28 t29 t30 t31 t32 t33 t34 t35 t36 t37 t38 t39 t40 t41 t42 t43 t44 t45 t46 t47 t48 t49 t50 t51 t52 t53 t54 t55 t56 t57 t58 t59 t60 t61 t62 t63 t64 t65 t66 t67 t68 t69 t70 t71 : Value)
    (h7 : W.cell? ⟨b, 7, none⟩ = some (.slice ac C cc))
    (hc1 : ∀ X, Below W.heap.size W X → Calls Try.prog 54 #[.pointer (some ⟨b, 0, none⟩), .int .i64 (n1 : Int), .int .i64 (C : Int)] X fun e X' => ∃ v, e = .returned v ∧ OwnG 73 1 spE X' B v A1 ∧ Below X.heap.size X X')
    (hc2 : ∀ X, Below W.heap.size W X → Calls Try.prog 54 #[.pointer (some ⟨b, 0, none⟩), .int .i64 (n2 : Int), .int .i64 (C : Int)] X fun e X' => ∃ v, e = .returned v ∧ OwnG 73 1 spE X' B v A2 ∧ Below X.heap.size X X')
    (hcm : ∀ X v u, OwnG 73 1 spE X B v A1 → OwnG 73 1 spE X B u A2 → Calls Try.prog 72 #[v, u] X fun e X' => e = .returned (.int .i64 (N : Int)) ∧ Below X.heap.size X X')
    (fin : ∀ X (u44 u45 u46 u47 u48 u49 u50 u51 u52 u53 u54 u55 u56 u57 u58 u59 u60 : Value), Below W.heap.size W X → Q .normal ⟨#[.pointer (some ⟨b, 0, none⟩), t1, t2, t3, t4, t5, t6, t7, t8, .int .i64 (n1 : Int), .int .i64 (n2 : Int), .int .i64 (N : Int), t12, t13, t14, t15, t16, t17, t18, t19, t20, t21, t22, t23, t24, t25, t26, t27, t28, t29, t30, t31, t32, t33, t34, t35, t36, t37, t38, t39, t40, t41, t42, t43, u44, u45, u46, u47, u48, u49, u50, u51, u52, u53, u54, u55, u56, u57, u58, u59, u60, t61, t62, t63, t64, t65, t66, t67, t68, t69, t70, t71], ds⟩ X) :
    (Code.region 6 tdOps true).wp Try.prog Q ⟨#[.pointer (some ⟨b, 0, none⟩), t1, t2, t3, t4, t5, t6, t7, t8, .int .i64 (n1 : Int), .int .i64 (n2 : Int), t11, t12, t13, t14, t15, t16, t17, t18, t19, t20, t21, t22, t23, t24, t25, t26, t27, t28, t29, t30, t31, t32, t33, t34, t35, t36, t37, t38, t39, t40, t41, t42, t43, t44, t45, t46, t47, t48, t49, t50, t51, t52, t53, t54, t55, t56, t57, t58, t59, t60, t61, t62, t63, t64, t65, t66, t67, t68, t69, t70, t71], ds⟩ W := by
  obtain ⟨a0, ha0⟩ : ∃ a0 : Act, a0 = ⟨#[.pointer (some ⟨b, 0, none⟩), t1, t2, t3, t4, t5, t6, t7, t8, .int .i64 (n1 : Int), .int .i64 (n2 : Int), t11, t12, t13, t14, t15, t16, t17, t18, t19, t20, t21, t22, t23, t24, t25, t26, t27, t28, t29, t30, t31, t32, t33, t34, t35, t36, t37, t38, t39, t40, t41, t42, t43, t44, t45, t46, t47, t48, t49, t50, t51, t52, t53, t54, t55, t56, t57, t58, t59, t60, t61, t62, t63, t64, t65, t66, t67, t68, t69, t70, t71], ds⟩ := ⟨_, rfl⟩
  have hs0 : a0.tmps.size = 72 := by rw [ha0]; rfl
  have hd0 : a0.defers = ds := by rw [ha0]
  have gY0 : a0.eval (.tmp 0) = .pointer (some ⟨b, 0, none⟩) := by rw [ha0]; rfl
  have gY1 : a0.eval (.tmp 1) = t1 := by rw [ha0]; rfl
  have gY2 : a0.eval (.tmp 2) = t2 := by rw [ha0]; rfl
  have gY3 : a0.eval (.tmp 3) = t3 := by rw [ha0]; rfl
  have gY4 : a0.eval (.tmp 4) = t4 := by rw [ha0]; rfl
  have gY5 : a0.eval (.tmp 5) = t5 := by rw [ha0]; rfl
  have gY6 : a0.eval (.tmp 6) = t6 := by rw [ha0]; rfl
  have gY7 : a0.eval (.tmp 7) = t7 := by rw [ha0]; rfl
  have gY8 : a0.eval (.tmp 8) = t8 := by rw [ha0]; rfl
  have gY9 : a0.eval (.tmp 9) = .int .i64 (n1 : Int) := by rw [ha0]; rfl
  have gY10 : a0.eval (.tmp 10) = .int .i64 (n2 : Int) := by rw [ha0]; rfl
  have gY12 : a0.eval (.tmp 12) = t12 := by rw [ha0]; rfl
  have gY13 : a0.eval (.tmp 13) = t13 := by rw [ha0]; rfl
  have gY14 : a0.eval (.tmp 14) = t14 := by rw [ha0]; rfl
  have gY15 : a0.eval (.tmp 15) = t15 := by rw [ha0]; rfl
  have gY16 : a0.eval (.tmp 16) = t16 := by rw [ha0]; rfl
  have gY17 : a0.eval (.tmp 17) = t17 := by rw [ha0]; rfl
  have gY18 : a0.eval (.tmp 18) = t18 := by rw [ha0]; rfl
  have gY19 : a0.eval (.tmp 19) = t19 := by rw [ha0]; rfl
  have gY20 : a0.eval (.tmp 20) = t20 := by rw [ha0]; rfl
  have gY21 : a0.eval (.tmp 21) = t21 := by rw [ha0]; rfl
  have gY22 : a0.eval (.tmp 22) = t22 := by rw [ha0]; rfl
  have gY23 : a0.eval (.tmp 23) = t23 := by rw [ha0]; rfl
  have gY24 : a0.eval (.tmp 24) = t24 := by rw [ha0]; rfl
  have gY25 : a0.eval (.tmp 25) = t25 := by rw [ha0]; rfl
  have gY26 : a0.eval (.tmp 26) = t26 := by rw [ha0]; rfl
  have gY27 : a0.eval (.tmp 27) = t27 := by rw [ha0]; rfl
  have gY28 : a0.eval (.tmp 28) = t28 := by rw [ha0]; rfl
  have gY29 : a0.eval (.tmp 29) = t29 := by rw [ha0]; rfl
  have gY30 : a0.eval (.tmp 30) = t30 := by rw [ha0]; rfl
  have gY31 : a0.eval (.tmp 31) = t31 := by rw [ha0]; rfl
  have gY32 : a0.eval (.tmp 32) = t32 := by rw [ha0]; rfl
  have gY33 : a0.eval (.tmp 33) = t33 := by rw [ha0]; rfl
  have gY34 : a0.eval (.tmp 34) = t34 := by rw [ha0]; rfl
  have gY35 : a0.eval (.tmp 35) = t35 := by rw [ha0]; rfl
  have gY36 : a0.eval (.tmp 36) = t36 := by rw [ha0]; rfl
  have gY37 : a0.eval (.tmp 37) = t37 := by rw [ha0]; rfl
  have gY38 : a0.eval (.tmp 38) = t38 := by rw [ha0]; rfl
  have gY39 : a0.eval (.tmp 39) = t39 := by rw [ha0]; rfl
  have gY40 : a0.eval (.tmp 40) = t40 := by rw [ha0]; rfl
  have gY41 : a0.eval (.tmp 41) = t41 := by rw [ha0]; rfl
  have gY42 : a0.eval (.tmp 42) = t42 := by rw [ha0]; rfl
  have gY43 : a0.eval (.tmp 43) = t43 := by rw [ha0]; rfl
  have gY61 : a0.eval (.tmp 61) = t61 := by rw [ha0]; rfl
  have gY62 : a0.eval (.tmp 62) = t62 := by rw [ha0]; rfl
  have gY63 : a0.eval (.tmp 63) = t63 := by rw [ha0]; rfl
  have gY64 : a0.eval (.tmp 64) = t64 := by rw [ha0]; rfl
  have gY65 : a0.eval (.tmp 65) = t65 := by rw [ha0]; rfl
  have gY66 : a0.eval (.tmp 66) = t66 := by rw [ha0]; rfl
  have gY67 : a0.eval (.tmp 67) = t67 := by rw [ha0]; rfl
  have gY68 : a0.eval (.tmp 68) = t68 := by rw [ha0]; rfl
  have gY69 : a0.eval (.tmp 69) = t69 := by rw [ha0]; rfl
  have gY70 : a0.eval (.tmp 70) = t70 := by rw [ha0]; rfl
  have gY71 : a0.eval (.tmp 71) = t71 := by rw [ha0]; rfl
  rw [← ha0]
  refine td_core W B b n1 n2 C ac cc A1 A2 N a0 hs0 gY0 gY9 gY10 h7 hc1 hc2 hcm ?_
  clear ha0
  intro a X E
  have hq := fin X (a.eval (.tmp 44)) (a.eval (.tmp 45)) (a.eval (.tmp 46)) (a.eval (.tmp 47)) (a.eval (.tmp 48)) (a.eval (.tmp 49)) (a.eval (.tmp 50)) (a.eval (.tmp 51)) (a.eval (.tmp 52)) (a.eval (.tmp 53)) (a.eval (.tmp 54)) (a.eval (.tmp 55)) (a.eval (.tmp 56)) (a.eval (.tmp 57)) (a.eval (.tmp 58)) (a.eval (.tmp 59)) (a.eval (.tmp 60)) E.bl 
  have ea : a = ⟨#[a.eval (.tmp 0), a.eval (.tmp 1), a.eval (.tmp 2), a.eval (.tmp 3), a.eval (.tmp 4), a.eval (.tmp 5), a.eval (.tmp 6), a.eval (.tmp 7), a.eval (.tmp 8), a.eval (.tmp 9), a.eval (.tmp 10), a.eval (.tmp 11), a.eval (.tmp 12), a.eval (.tmp 13), a.eval (.tmp 14), a.eval (.tmp 15), a.eval (.tmp 16), a.eval (.tmp 17), a.eval (.tmp 18), a.eval (.tmp 19), a.eval (.tmp 20), a.eval (.tmp 21), a.eval (.tmp 22), a.eval (.tmp 23), a.eval (.tmp 24), a.eval (.tmp 25), a.eval (.tmp 26), a.eval (.tmp 27), a.eval (.tmp 28), a.eval (.tmp 29), a.eval (.tmp 30), a.eval (.tmp 31), a.eval (.tmp 32), a.eval (.tmp 33), a.eval (.tmp 34), a.eval (.tmp 35), a.eval (.tmp 36), a.eval (.tmp 37), a.eval (.tmp 38), a.eval (.tmp 39), a.eval (.tmp 40), a.eval (.tmp 41), a.eval (.tmp 42), a.eval (.tmp 43), a.eval (.tmp 44), a.eval (.tmp 45), a.eval (.tmp 46), a.eval (.tmp 47), a.eval (.tmp 48), a.eval (.tmp 49), a.eval (.tmp 50), a.eval (.tmp 51), a.eval (.tmp 52), a.eval (.tmp 53), a.eval (.tmp 54), a.eval (.tmp 55), a.eval (.tmp 56), a.eval (.tmp 57), a.eval (.tmp 58), a.eval (.tmp 59), a.eval (.tmp 60), a.eval (.tmp 61), a.eval (.tmp 62), a.eval (.tmp 63), a.eval (.tmp 64), a.eval (.tmp 65), a.eval (.tmp 66), a.eval (.tmp 67), a.eval (.tmp 68), a.eval (.tmp 69), a.eval (.tmp 70), a.eval (.tmp 71)], a.defers⟩ := act_eta a 72 (E.sz.trans hs0)
  rw [ea, E.df, hd0]
  have kY0 : a.eval (.tmp 0) = .pointer (some ⟨b, 0, none⟩) := (E.ag 0 (by decide)).trans gY0
  have kY1 : a.eval (.tmp 1) = t1 := (E.ag 1 (by decide)).trans gY1
  have kY2 : a.eval (.tmp 2) = t2 := (E.ag 2 (by decide)).trans gY2
  have kY3 : a.eval (.tmp 3) = t3 := (E.ag 3 (by decide)).trans gY3
  have kY4 : a.eval (.tmp 4) = t4 := (E.ag 4 (by decide)).trans gY4
  have kY5 : a.eval (.tmp 5) = t5 := (E.ag 5 (by decide)).trans gY5
  have kY6 : a.eval (.tmp 6) = t6 := (E.ag 6 (by decide)).trans gY6
  have kY7 : a.eval (.tmp 7) = t7 := (E.ag 7 (by decide)).trans gY7
  have kY8 : a.eval (.tmp 8) = t8 := (E.ag 8 (by decide)).trans gY8
  have kY9 : a.eval (.tmp 9) = .int .i64 (n1 : Int) := (E.ag 9 (by decide)).trans gY9
  have kY10 : a.eval (.tmp 10) = .int .i64 (n2 : Int) := (E.ag 10 (by decide)).trans gY10
  have kY11 : a.eval (.tmp 11) = .int .i64 (N : Int) := E.vs 17 (by decide) trivial
  have kY12 : a.eval (.tmp 12) = t12 := (E.ag 12 (by decide)).trans gY12
  have kY13 : a.eval (.tmp 13) = t13 := (E.ag 13 (by decide)).trans gY13
  have kY14 : a.eval (.tmp 14) = t14 := (E.ag 14 (by decide)).trans gY14
  have kY15 : a.eval (.tmp 15) = t15 := (E.ag 15 (by decide)).trans gY15
  have kY16 : a.eval (.tmp 16) = t16 := (E.ag 16 (by decide)).trans gY16
  have kY17 : a.eval (.tmp 17) = t17 := (E.ag 17 (by decide)).trans gY17
  have kY18 : a.eval (.tmp 18) = t18 := (E.ag 18 (by decide)).trans gY18
  have kY19 : a.eval (.tmp 19) = t19 := (E.ag 19 (by decide)).trans gY19
  have kY20 : a.eval (.tmp 20) = t20 := (E.ag 20 (by decide)).trans gY20
  have kY21 : a.eval (.tmp 21) = t21 := (E.ag 21 (by decide)).trans gY21
  have kY22 : a.eval (.tmp 22) = t22 := (E.ag 22 (by decide)).trans gY22
  have kY23 : a.eval (.tmp 23) = t23 := (E.ag 23 (by decide)).trans gY23
  have kY24 : a.eval (.tmp 24) = t24 := (E.ag 24 (by decide)).trans gY24
  have kY25 : a.eval (.tmp 25) = t25 := (E.ag 25 (by decide)).trans gY25
  have kY26 : a.eval (.tmp 26) = t26 := (E.ag 26 (by decide)).trans gY26
  have kY27 : a.eval (.tmp 27) = t27 := (E.ag 27 (by decide)).trans gY27
  have kY28 : a.eval (.tmp 28) = t28 := (E.ag 28 (by decide)).trans gY28
  have kY29 : a.eval (.tmp 29) = t29 := (E.ag 29 (by decide)).trans gY29
  have kY30 : a.eval (.tmp 30) = t30 := (E.ag 30 (by decide)).trans gY30
  have kY31 : a.eval (.tmp 31) = t31 := (E.ag 31 (by decide)).trans gY31
  have kY32 : a.eval (.tmp 32) = t32 := (E.ag 32 (by decide)).trans gY32
  have kY33 : a.eval (.tmp 33) = t33 := (E.ag 33 (by decide)).trans gY33
  have kY34 : a.eval (.tmp 34) = t34 := (E.ag 34 (by decide)).trans gY34
  have kY35 : a.eval (.tmp 35) = t35 := (E.ag 35 (by decide)).trans gY35
  have kY36 : a.eval (.tmp 36) = t36 := (E.ag 36 (by decide)).trans gY36
  have kY37 : a.eval (.tmp 37) = t37 := (E.ag 37 (by decide)).trans gY37
  have kY38 : a.eval (.tmp 38) = t38 := (E.ag 38 (by decide)).trans gY38
  have kY39 : a.eval (.tmp 39) = t39 := (E.ag 39 (by decide)).trans gY39
  have kY40 : a.eval (.tmp 40) = t40 := (E.ag 40 (by decide)).trans gY40
  have kY41 : a.eval (.tmp 41) = t41 := (E.ag 41 (by decide)).trans gY41
  have kY42 : a.eval (.tmp 42) = t42 := (E.ag 42 (by decide)).trans gY42
  have kY43 : a.eval (.tmp 43) = t43 := (E.ag 43 (by decide)).trans gY43
  have kY61 : a.eval (.tmp 61) = t61 := (E.ag 61 (by decide)).trans gY61
  have kY62 : a.eval (.tmp 62) = t62 := (E.ag 62 (by decide)).trans gY62
  have kY63 : a.eval (.tmp 63) = t63 := (E.ag 63 (by decide)).trans gY63
  have kY64 : a.eval (.tmp 64) = t64 := (E.ag 64 (by decide)).trans gY64
  have kY65 : a.eval (.tmp 65) = t65 := (E.ag 65 (by decide)).trans gY65
  have kY66 : a.eval (.tmp 66) = t66 := (E.ag 66 (by decide)).trans gY66
  have kY67 : a.eval (.tmp 67) = t67 := (E.ag 67 (by decide)).trans gY67
  have kY68 : a.eval (.tmp 68) = t68 := (E.ag 68 (by decide)).trans gY68
  have kY69 : a.eval (.tmp 69) = t69 := (E.ag 69 (by decide)).trans gY69
  have kY70 : a.eval (.tmp 70) = t70 := (E.ag 70 (by decide)).trans gY70
  have kY71 : a.eval (.tmp 71) = t71 := (E.ag 71 (by decide)).trans gY71
  rw [kY0, kY1, kY2, kY3, kY4, kY5, kY6, kY7, kY8, kY9, kY10, kY11, kY12, kY13, kY14, kY15, kY16, kY17, kY18, kY19, kY20, kY21, kY22, kY23, kY24, kY25, kY26, kY27, kY28, kY29, kY30, kY31, kY32, kY33, kY34, kY35, kY36, kY37, kY38, kY39, kY40, kY41, kY42, kY43, kY61, kY62, kY63, kY64, kY65, kY66, kY67, kY68, kY69, kY70, kY71]
  exact hq

end Go.Proofs.Ytepmdnggiajkbaa

/-
  The program's table: what tells rows apart that are alike.
-/
namespace Go.Proofs.Ytepmdnggiajkbaa
set_option linter.unusedVariables false
open Go.RowKit

section
variable {B : Nat} {w w' : World} {p : Tl} {s : Ts} {t : Tb}
/-- Edges whose classes are the same differ by no column. -/
theorem trnX_none (W : Vw s t) (V : Vi s) (H : Hd s) (F : Ful s) {i j x : Nat} (hi : i < s.rows.length) (hj : j < s.rows.length) (hx : x < s.K) (e : (s.ln (1 + s.K * i + x)).cl = (s.ln (1 + s.K * j + x)).cl) : trnX t (t.rw i) (t.rw j) x = none := by
  have := (W.alike V H F (V.edge hi hx) (V.edge hj hx)).1 e
  rw [W.edge V hi hx, W.edge V hj hx, alkT_iff] at this
  exact fs_none fun k hk => by unfold trnK; rw [if_pos (this k hk)]
theorem getD_range {α : Type} (f : Nat → α) (d : α) {n k : Nat} (h : k < n) : ((List.range n).map f).getD k d = f k := by
  rw [List.getD_eq_getElem?_getD]; simp [h]
theorem trnX_some (W : Vw s t) (V : Vi s) (H : Hd s) (F : Ful s) {i j x : Nat} (hi : i < s.rows.length) (hj : j < s.rows.length) (hx : x < s.K) (e : (s.ln (1 + s.K * i + x)).cl ≠ (s.ln (1 + s.K * j + x)).cl) :
    cmnV (s.cst (1 + s.K * i + x) s.cols.length) (s.cst (1 + s.K * j + x) s.cols.length) < s.cols.length ∧
    trnX t (t.rw i) (t.rw j) x = some ((x : Int) :: s.co (cmnV (s.cst (1 + s.K * i + x) s.cols.length) (s.cst (1 + s.K * j + x) s.cols.length))) := by
  have hne : ¬ alkT t (s.wd (1 + s.K * i + x)) (s.wd (1 + s.K * j + x)) = true := fun q => e ((W.alike V H F (V.edge hi hx) (V.edge hj hx)).2 q)
  rw [W.cst V, W.cst V, W.edge V hi hx, W.edge V hj hx]
  rw [W.edge V hi hx, W.edge V hj hx] at hne
  have hc : t.cols.length = s.cols.length := by rw [W.cols]
  cases q : trnX t (t.rw i) (t.rw j) x with
  | none =>
    exfalso
    refine hne (alkT_iff.2 fun k hk => ?_)
    have := fs_none' q k hk
    unfold trnK at this
    apply Classical.byContradiction
    intro n
    rw [if_neg n] at this
    cases this
  | some v =>
    obtain ⟨k, h1, h2, h3⟩ := fs_some q
    unfold trnK at h2
    by_cases c : celV t (t.rw i ++ [(x : Int)]) (t.co k) = celV t (t.rw j ++ [(x : Int)]) (t.co k)
    · rw [if_pos c] at h2; cases h2
    · rw [if_neg c] at h2
      have hk : cmnV ((List.range t.cols.length).map fun k => celV t (t.rw i ++ [(x : Int)]) (t.co k)) ((List.range t.cols.length).map fun k => celV t (t.rw j ++ [(x : Int)]) (t.co k)) = k := by
        refine cmn_at (by simp) (fun d hd => ?_) (by simpa using h1) ?_
        · rw [getD_range _ _ (by omega), getD_range _ _ (by omega)]
          have := h3 d hd
          unfold trnK at this
          apply Classical.byContradiction
          intro n
          rw [if_neg n] at this
          cases this
        · rw [getD_range _ _ h1, getD_range _ _ h1]; exact c
      rw [hk, ← W.co]
      exact ⟨by omega, h2.symm⟩
/-- What tornBetween leaves. -/
def TnP (t : Tb) (i j : Nat) (w : World) (e : Ending) (w' : World) : Prop :=
  e = .returned (.tuple #[.string (sp ((trnP t (t.rw i) (t.rw j)).getD [])), .bool (trnP t (t.rw i) (t.rw j)).isSome]) ∧ Below w.heap.size w w'
set_option maxRecDepth 100000 in
set_option maxHeartbeats 4000000 in
theorem tornBetween_any (h : To B w p s) (V : Vi s) (H : Hd s) (F : Ful s) (W : Vw s t) {i j : Nat} (hi : i < s.rows.length) (hj : j < s.rows.length) :
    Calls Try.prog 50 #[.pointer (some ⟨p.b, 0, none⟩), .int .i64 ((s.rw i : Nat) : Int), .int .i64 ((s.rw j : Nat) : Int)] w (TnP t i j w) := by
  have HO := hide h
  have HV := hide V
  have HN := hide fun x (hx : x < s.K) => trnX_none W V H F hi hj hx
  have HS := hide fun x (hx : x < s.K) => trnX_some W V H F hi hj hx
  have hK := V.k2
  have HK := hide (show t.k.toNat = s.K by rw [W.k]; omega)
  have c1 := h.c1
  have e1 := hide (V.rg i hi).2
  have e2 := hide (V.rg j hj).2
  have hl2 := V.len2
  have hcl := V.cl
  have hP1 := V.rwlt hi
  have hP2 := V.rwlt hj
  have hlen := h.lnc
  clear h V H F W
  generalize hp1 : s.rw i = P1 at *
  generalize hp2 : s.rw j = P2 at *
  clear hp1 hp2
  go_enter Try.func50, Try.ntmps50
  go_wp2
  go_loopw [16] (fun iv wr => ∃ X : Nat, iv = .int .i64 (X : Int) ∧ X ≤ s.K ∧ Hid (∀ x, x < X → trnX t (t.rw i) (t.rw j) x = none) ∧ Hid (Below w.heap.size w wr)) (fun iv _ => s.K - (intOf iv).toNat)
  case atStart => exact ⟨0, rfl, Nat.zero_le _, hide (fun x hx => by omega), hide (Below.refl _ _)⟩
  case round =>
    obtain ⟨X, rfl, hX, HA, HB⟩ := hrel
    by_cases hlt : X < s.K
    · have hlt' : (X : Int) < (s.K : Int) := by omega
      have hO := (unhide HO).below (unhide HB)
      have q1 := (unhide HV).edge hi hlt
      have q2 := (unhide HV).edge hj hlt
      have hed1 := edge_any hO (X : Int) hP1 (by omega) (by omega) (by rw [unhide e1]; omega)
      have hed2 := edge_any hO (X : Int) hP2 (by omega) (by omega) (by rw [unhide e2]; omega)
      rw [show ((s.ln P1).ed : Int) + (X : Int) = ((1 + s.K * i + X : Nat) : Int) by rw [unhide e1]; omega] at hed1
      rw [show ((s.ln P2).ed : Int) + (X : Int) = ((1 + s.K * j + X : Nat) : Int) by rw [unhide e2]; omega] at hed2
      have d4 := hO.c4
      have d7 := hO.c7
      obtain ⟨-, -, -, m1, -⟩ := hO.lc q1
      obtain ⟨-, -, -, m2, -⟩ := hO.lc q2
      have q1' : ((1 + s.K * i + X : Nat) : Int) < (s.ls.length : Int) := by omega
      have q2' : ((1 + s.K * j + X : Nat) : Int) < (s.ls.length : Int) := by omega
      have HNX := hide (unhide HN X hlt)
      have HSX := hide (unhide HS X hlt)
      have HOO := hide hO
      have HO1 := hide fun (nq : Nat) (Y : World) (hY : Below (wr.drewN nq).heap.size (wr.drewN nq) Y) => (hO.keep (w' := wr.drewN nq) fun _ _ _ => rfl).below hY
      clear hO
      generalize 1 + s.K * i + X = n1 at *
      generalize 1 + s.K * j + X = n2 at *
      by_cases hq : (s.ln n1).cl = (s.ln n2).cl
      · have HA1 : Hid (∀ x, x < X + 1 → trnX t (t.rw i) (t.rw j) x = none) := hide fun x hx => by
          by_cases e : x = X
          · subst e; exact unhide HNX hq
          · exact unhide HA x (by omega)
        rw [hq] at m1
        clear hq HSX HNX
        generalize (s.ln n2).cl = C2 at *
        go_wp2_with fail
        refine hed1.mono ?_
        rintro e w1 ⟨rfl, hw1⟩
        subst hw1
        go_wp2_with fail
        refine hed2.mono ?_
        rintro e w1 ⟨rfl, hw1⟩
        subst hw1
        go_wp2
        go_quiet (fail)
        go_wp2
        go_roundw
        case rel => exact ⟨X + 1, by go_num, hlt, HA1, hide (below_drewN (unhide HB) _)⟩
        case measure => simp [intOf]; omega
      · obtain ⟨r1, r2⟩ := unhide HSX hq
        have HR := hide (show trnP t (t.rw i) (t.rw j) = some ((X : Int) :: s.co (cmnV (s.cst n1 s.cols.length) (s.cst n2 s.cols.length))) from fs_at (by rw [unhide HK]; exact hlt) (unhide HA) r2)
        have ql1 : (s.cst n1 s.cols.length).length = s.cols.length := by simp [Ts.cst]
        have ql2 : (s.cst n2 s.cols.length).length = s.cols.length := by simp [Ts.cst]
        have qs : ∀ n, ∀ x ∈ s.cst n s.cols.length, Sb x := fun n x hx => by
          unfold Ts.cst at hx
          obtain ⟨c, _, rfl⟩ := List.mem_map.1 hx
          cases g : s.cel (s.wd n) (s.co c) with
          | none => exact Sb.nil
          | some y => exact ((unhide HV).celS g).1
        have HCM := hide fun (Y : World) (v u : Value) (hv : OwnG 73 1 spE Y wr.heap.size v (s.cst n1 s.cols.length)) (hu : OwnG 73 1 spE Y wr.heap.size u (s.cst n2 s.cols.length)) =>
          common_any _ _ _ v u Y hv hu (qs n1) (qs n2) (by rw [ql1, ql2]) (by rw [ql1]; omega) (by rw [ql1]; omega)
        have HC1 : Hid (∀ (Y : World), To B Y p s → Calls Try.prog 54 #[.pointer (some ⟨p.b, 0, none⟩), .int .i64 (n1 : Int), .int .i64 (s.cols.length : Int)] Y fun e w' => ∃ v, e = .returned v ∧ OwnG 73 1 spE w' Y.heap.size v (s.cst n1 s.cols.length) ∧ Below Y.heap.size Y w') := hide fun Y hY => cellsOf_any hY (unhide HV) q1 (Nat.le_refl s.cols.length)
        have HC2 : Hid (∀ (Y : World), To B Y p s → Calls Try.prog 54 #[.pointer (some ⟨p.b, 0, none⟩), .int .i64 (n2 : Int), .int .i64 (s.cols.length : Int)] Y fun e w' => ∃ v, e = .returned v ∧ OwnG 73 1 spE w' Y.heap.size v (s.cst n2 s.cols.length) ∧ Below Y.heap.size Y w') := hide fun Y hY => cellsOf_any hY (unhide HV) q2 (Nat.le_refl s.cols.length)
        have hlc := ((unhide HV).cw _ (Vi.co_mem r1)).1
        have hsb : Sb (s.co (cmnV (s.cst n1 s.cols.length) (s.cst n2 s.cols.length))) := (unhide HV).cb (Vi.co_mem r1)
        obtain ⟨ga, ea, -, -⟩ := (unhide HOO).cc r1
        have HCC : Hid (∀ (Y : World), To B Y p s → Y.cell? ⟨p.b, 7, none⟩ = some (.slice (some ⟨ga, 0, none⟩) s.cols.length p.cc) ∧ Y.cell? ⟨ga, cmnV (s.cst n1 s.cols.length) (s.cst n2 s.cols.length), none⟩ = some (.string (sp (s.co (cmnV (s.cst n1 s.cols.length) (s.cst n2 s.cols.length)))))) := hide fun Y hY => by
          have h7 := hY.c7
          obtain ⟨g', e', -, k0⟩ := hY.cc r1
          rw [ea] at h7 e'
          cases e'
          exact ⟨h7, k0⟩
        rw [ea] at d7
        clear ql1 ql2 qs r2 HNX HSX ea
        have t0 : ((s.ln n1).cl : Int) ≠ ((s.ln n2).cl : Int) := by omega
        generalize cmnV (s.cst n1 s.cols.length) (s.cst n2 s.cols.length) = N at *
        generalize s.cst n1 s.cols.length = A1 at *
        generalize s.cst n2 s.cols.length = A2 at *
        generalize (s.ln n1).cl = C1 at *
        generalize (s.ln n2).cl = C2 at *
        have t1 : ((C1 : Int) == (C2 : Int)) = false := by simp; omega
        clear t0 hq
        go_wp2_with fail
        refine hed1.mono ?_
        rintro e w1 ⟨rfl, hw1⟩
        subst hw1
        go_wp2_with fail
        refine hed2.mono ?_
        rintro e w1 ⟨rfl, hw1⟩
        subst hw1
        go_wp2
        go_quiet (fail)
        go_wp2
        refine td_region _ w1.heap.size p.b n1 n2 s.cols.length (some ⟨ga, 0, none⟩) p.cc A1 A2 N _ _ _ _ _ _ _ _ _ _ _ _ _ _ _ _ _ _ _ _ _ _ _ _ _ _ _ _ _ _ _ _ _ _ _ _ _ _ _ _ _ _ _ _ _ _ _ _ _ _ _ _ _ _ _ _ _ _ _ _ _ _ _ _ _ _ _ _ _ _ d7 (fun Y hY => ((unhide HC1) Y (unhide HO1 _ Y hY)).mono ?_) (fun Y hY => ((unhide HC2) Y (unhide HO1 _ Y hY)).mono ?_) (fun Y v u hv hu => unhide HCM Y v u hv hu) ?_
        · rintro e Y' ⟨v, rfl, hv, hb⟩
          exact ⟨v, rfl, hv.mono hY.size, hb⟩
        · rintro e Y' ⟨v, rfl, hv, hb⟩
          exact ⟨v, rfl, hv.mono hY.size, hb⟩
        intro Y x0 x1 x2 x3 x4 x5 x6 x7 x8 x9 x10 x11 x12 x13 x14 x15 x16 hY
        have hTY := unhide HO1 _ Y hY
        have HTY := hide fun (Y2 : World) (hb : Below Y.drew.heap.size Y.drew Y2) => (hTY.keep (w' := Y.drew) fun _ _ _ => rfl).below hb
        obtain ⟨f7, fc⟩ := unhide HCC Y hTY
        have HBY := hide ((below_drewN (unhide HB) _).trans (hY.mono (unhide HB).size))
        have hN' : (N : Int) < (s.cols.length : Int) := by omega
        have zc := sp_size (s.co N)
        have zx : (sp [(X : Int)]).size = 1 := sp_size _
        have hsy := fun Y => symbol_any (X : Int) Y (by omega) (by omega)
        clear hTY hY hed1 hed2 d4 d7 m1 m2
        go_wp2
        go_region_with (go_at_call 57; (with_reducible refine (hsy _).mono ?_); rintro e Y2 ⟨rfl, hb2⟩; obtain ⟨g7, gc⟩ := unhide HCC _ (unhide HTY _ hb2); have HB2 := hide (bstep (Below.drew (unhide HBY)) hb2); clear hb2)
        all_goals (
          go_wp2
          go_ret2
          exact ⟨by rw [unhide HR, sp_app]; rfl, unhide HB2⟩)
    · obtain rfl : X = s.K := by omega
      have HR := hide (show trnP t (t.rw i) (t.rw j) = none from fs_none (by rw [unhide HK]; exact unhide HA))
      go_wp2
      go_ret2
      exact ⟨by rw [unhide HR]; rfl, unhide HB⟩
/-- What torn leaves. -/
def TrP (t : Tb) (w : World) (e : Ending) (w' : World) : Prop :=
  e = .returned (.tuple #[.string (sp ((fs (trnJ t) t.rows.length).getD [])), .bool (fs (trnJ t) t.rows.length).isSome]) ∧ Below w.heap.size w w'
set_option maxRecDepth 100000 in
set_option maxHeartbeats 4000000 in
theorem torn_any (h : To B w p s) (V : Vi s) (H : Hd s) (F : Ful s) (W : Vw s t) :
    Calls Try.prog 26 #[.pointer (some ⟨p.b, 0, none⟩)] w (TrP t w) := by
  have HO := hide h
  have HV := hide V
  have hR := hide W.rl
  have HTB := hide fun (Y : World) (hY : To B Y p s) i j (hi : i < s.rows.length) (hj : j < s.rows.length) => tornBetween_any hY V H F W hi hj
  have HAL := hide fun i j (hi : i < s.rows.length) (hj : j < s.rows.length) => (show (s.ln (s.rw i)).cl = (s.ln (s.rw j)).cl ↔ alkT t (t.rw i) (t.rw j) = true by
    rw [W.rw hi, W.rw hj]; exact W.alike V H F (V.rwlt hi) (V.rwlt hj))
  obtain ⟨gr, er, -, hcr, hcm, -, -⟩ := own_at (i := 0) h.rw W.r1
  have HC : Hid (∀ (Y : World), To B Y p s → Y.cell? ⟨p.b, 5, none⟩ = some (.slice (some ⟨gr, 0, none⟩) s.rows.length p.cr) ∧ ∀ i, i < s.rows.length → Y.cell? ⟨gr, i, none⟩ = some (.int .i64 ((s.rw i : Nat) : Int))) := hide fun Y hY => by
    have h5 := hY.c5
    rw [er] at h5
    refine ⟨h5, fun i hi => ?_⟩
    obtain ⟨g', e', -, -, -, k0, -⟩ := own_at (i := i) hY.rw hi
    rw [er] at e'
    cases e'
    exact k0
  have c5 := (unhide HC w h).1
  have hrl := V.rl
  have hlen := h.lnc
  have hl2 := V.len2
  have hcm' : p.cr ≤ 9223372036854775807 := by unfold maxLen at hcm; omega
  clear h V H F W er hcm
  go_enter Try.func26, Try.ntmps26
  go_wp2
  go_loopw [13] (fun iv wr => ∃ I : Nat, iv = .int .i64 (I : Int) ∧ I ≤ s.rows.length ∧ Hid (∀ i, i < I → trnJ t i = none) ∧ Hid (Below w.heap.size w wr)) (fun iv _ => s.rows.length - (intOf iv).toNat)
  case atStart => exact ⟨0, rfl, Nat.zero_le _, hide (fun x hx => by omega), hide (Below.refl _ _)⟩
  case round =>
    clear c5
    obtain ⟨I, rfl, hI, HA, HB⟩ := hrel
    by_cases hlt : I < s.rows.length
    · have hlt' : (I : Int) < (s.rows.length : Int) := by omega
      have hO := (unhide HO).below (unhide HB)
      obtain ⟨d5, dr⟩ := unhide HC wr hO
      have k0 := dr I hlt
      have HP1 := hide ((unhide HV).rwlt hlt)
      have HPE := hide (rfl : s.rw I = s.rw I)
      clear hO dr
      by_cases hcap : p.cr = I + 1
      · have hcapT : (p.cr = I + 1) = True := eq_true hcap
        have hz : s.rows.length = I + 1 := by omega
        have hz2 : ¬ (0 : Int) < (s.rows.length : Int) - ((I : Int) + 1) := by omega
        have hz3 : ¬ 0 < s.rows.length - (I + 1) := by omega
        have hI2 : (I : Int) + 1 ≤ (s.rows.length : Int) := by omega
        have hI3 : (I : Int) + 1 ≤ (p.cr : Int) := by omega
        have HA1 : Hid (∀ i, i < I + 1 → trnJ t i = none) := hide fun i hi => by
          by_cases e : i = I
          · subst e
            unfold trnJ
            rw [unhide hR, hz, Nat.sub_self]; rfl
          · exact unhide HA i (by omega)
        clear hcap hz
        generalize s.rw I = P1 at *
        go_wp2
        go_loopw [26] (fun iv wr' => iv = .int .i64 0 ∧ wr' = wr) (fun _ _ => 0)
        case atStart => exact ⟨rfl, rfl⟩
        case round =>
          obtain ⟨rfl, rfl⟩ := hrel
          go_wp2
          go_roundw
          case rel => exact ⟨I + 1, by go_num, hlt, HA1, HB⟩
          case measure => simp [intOf]; omega
      · have hcap' : ¬ (p.cr : Int) = (I : Int) + 1 := by omega
        have hI1 : (I : Int) + 1 ≤ (s.rows.length : Int) := by omega
        have hcx : (I : Int) + 1 ≤ (p.cr : Int) := by omega
        generalize hP1E : s.rw I = P1 at *
        have HP1E := hide hP1E
        clear hP1E
        go_wp2
        go_loopw [26] (fun iv wr => ∃ D : Nat, iv = .int .i64 (D : Int) ∧ I + 1 + D ≤ s.rows.length ∧ Hid (∀ d, d < D → trnD t I d = none) ∧ Hid (Below w.heap.size w wr)) (fun iv _ => s.rows.length - (intOf iv).toNat)
        case atStart => exact ⟨0, rfl, by omega, hide (fun x hx => by omega), HB⟩
        case round =>
          clear HB d5 k0
          obtain ⟨D, rfl, hD, HD, HB⟩ := hrel
          by_cases hd : I + 1 + D < s.rows.length
          · have hd' : (D : Int) < (s.rows.length : Int) - ((I : Int) + 1) := by omega
            have hd2 : D < s.rows.length - (I + 1) := by omega
            have hO := (unhide HO).below (unhide HB)
            obtain ⟨d5, dr⟩ := unhide HC wr hO
            have k1 := dr (I + 1 + D) hd
            have d4 := hO.c4
            have q1 := unhide HP1
            have q2 := (unhide HV).rwlt hd
            obtain ⟨-, -, -, m1, -⟩ := hO.lc q1
            obtain ⟨-, -, -, m2, -⟩ := hO.lc q2
            have q1' : (P1 : Int) < (s.ls.length : Int) := by omega
            have q2' : ((s.rw (I + 1 + D) : Nat) : Int) < (s.ls.length : Int) := by omega
            have hal := unhide HAL I (I + 1 + D) hlt hd
            rw [unhide HP1E] at hal
            have HTB1 := hide fun nq => (unhide HP1E) ▸ (unhide HTB (wr.drewN nq) (hO.keep fun _ _ _ => rfl) I (I + 1 + D) hlt hd)
            have HHAL := hide hal
            clear hO dr
            have hst : Hid (trnD t I D = none → ∀ d, d < D + 1 → trnD t I d = none) := hide fun e d hd => by
              by_cases c : d = D
              · subst c; exact e
              · exact unhide HD d (by omega)
            generalize s.rw (I + 1 + D) = P2 at *
            by_cases hq : (s.ln P1).cl = (s.ln P2).cl
            · have HE := hide (show trnD t I D = trnP t (t.rw I) (t.rw (I + 1 + D)) by unfold trnD; rw [if_pos (hal.1 hq)])
              rw [hq] at m1
              clear hq hal HHAL
              generalize (s.ln P2).cl = C2 at *
              unfold TnP at HTB1
              cases hr : trnP t (t.rw I) (t.rw (I + 1 + D)) with
              | none =>
                rw [hr] at HTB1 HE
                have HD1 := hide (unhide hst (unhide HE))
                clear hr hst HE
                simp only [Option.isSome_none, Option.getD_none] at HTB1
                go_wp2
                go_quiet (fail)
                go_wp2_with fail
                refine (unhide HTB1 _).mono ?_
                rintro e w1 ⟨rfl, hb1⟩
                go_wp2
                go_roundw
                case rel => exact ⟨D + 1, by go_num, by omega, HD1, hide (bstep (below_drewN (unhide HB) _) hb1)⟩
                case measure => simp [intOf]; omega
              | some v =>
                rw [hr] at HTB1 HE
                have HR := hide (show fs (trnJ t) t.rows.length = some v from fs_at (i := I) (by rw [unhide hR]; exact hlt) (unhide HA) (by unfold trnJ; exact fs_at (i := D) (by rw [unhide hR]; omega) (unhide HD) (unhide HE)))
                clear hr hst HE
                simp only [Option.isSome_some, Option.getD_some] at HTB1
                go_wp2
                go_quiet (fail)
                go_wp2_with fail
                refine (unhide HTB1 _).mono ?_
                rintro e w1 ⟨rfl, hb1⟩
                go_wp2
                go_ret2
                exact ⟨by rw [unhide HR]; rfl, bstep (below_drewN (unhide HB) _) hb1⟩
            · have HD1 := hide (unhide hst (by unfold trnD; rw [if_neg (fun c => hq (hal.2 c))]))
              have t1 : (((s.ln P1).cl : Int) != ((s.ln P2).cl : Int)) = true := by simp; omega
              clear hq hal hst HHAL HTB1
              generalize (s.ln P1).cl = C1 at *
              generalize (s.ln P2).cl = C2 at *
              go_wp2
              go_quiet (fail)
              go_wp2
              go_roundw
              case rel => exact ⟨D + 1, by go_num, by omega, HD1, hide (below_drewN (unhide HB) _)⟩
              case measure => simp [intOf]; omega
          · have hz : D = s.rows.length - (I + 1) := by omega
            have hz' : (D : Int) = (s.rows.length : Int) - ((I : Int) + 1) := by omega
            have hz2 : ¬ (D : Int) < (s.rows.length : Int) - ((I : Int) + 1) := by omega
            have HA1 : Hid (∀ i, i < I + 1 → trnJ t i = none) := hide fun i hi => by
              by_cases e : i = I
              · subst e
                unfold trnJ
                rw [unhide hR, ← hz]
                exact fs_none (unhide HD)
              · exact unhide HA i (by omega)
            clear hz hz'
            go_wp2
            go_roundw
            case rel => exact ⟨I + 1, by go_num, hlt, HA1, HB⟩
            case measure => simp [intOf]; omega
    · obtain rfl : I = s.rows.length := by omega
      have HR := hide (show fs (trnJ t) t.rows.length = none from fs_none (by rw [unhide hR]; exact unhide HA))
      go_wp2
      go_ret2
      exact ⟨by rw [unhide HR]; rfl, unhide HB⟩
end

end Go.Proofs.Ytepmdnggiajkbaa

/-
  slices.Insert at a list of places that lies in memory of the call's own.
-/
namespace Go.Proofs.Ytepmdnggiajkbaa
set_option linter.unusedVariables false
open Go.RowKit

theorem wpL_copy_run {w : World} {ops : Array Oper} {rest : List Oper} {o : Oper} {a : Act} {Q : Exit → Act → World → Prop} (hgd : o.guard = none) (d s : Operand) (t t' : TypeId)
    (ho : o.op = .call { callee := .builtin .copy, args := #[d, s], argTypes := #[t, t'] }) (v u : Value) (hd : a.eval d = v) (hs : a.eval s = u) {v' : Value} {w' : World}
    (hr : (Builtin.copy_ #[t, t'] o.type #[v, u]).run Try.prog w = .ok v' w') (h : wpList Try.prog ops Q rest (a.put o.dst v') w') : wpList Try.prog ops Q (o :: rest) a w := by
  refine wpList_plain hgd fun K hK => ?_
  unfold Oper.wp
  simp [execOp, ho, resolve, invoke, builtin, hd, hs, hr, Result.andThen]
  exact hK _ _ h
theorem st_copy_run {ops : Array Oper} {o : Oper} {a : Act} {w : World} {K : Act → World → Prop} {Q : Exit → Act → World → Prop} {E : Prop}
    (hg : o.guard = none) (d x : Operand) (dT sT : TypeId) (hop : o.op = Op.call { callee := Callee.builtin Builtin.copy, args := #[d, x], argTypes := #[dT, sT] })
    (v u : Value) (hd : a.eval d = v) (hx : a.eval x = u) {v' : Value} {w' : World} (hr : (Builtin.copy_ #[dT, sT] o.type #[v, u]).run Try.prog w = .ok v' w') (hK : K (a.put o.dst v') w') :
    if Region.wanted o (yielded ops a.tmps) = true then Oper.wp Try.prog o a w K Q else E := by
  have hw : Region.wanted o (yielded ops a.tmps) = true := by simp [Region.wanted, hg]
  rw [if_pos hw]
  unfold Oper.wp
  simp [execOp, hop, resolve, invoke, builtin, hd, hx, hr, Result.andThen]
  exact hK
/-- An append's second type is asked only whether it is a number's. -/
theorem app_ty {t tx ty e ex : TypeId} (ht : Try.prog.underlying t = some (.slice e)) (hx : Try.prog.underlying tx = some (.slice ex)) (v u : Value) (w : World) :
    (Builtin.append_ #[t, tx] ty #[v, u]).run Try.prog w = (Builtin.append_ #[t, t] ty #[v, u]).run Try.prog w := by
  cases v <;> simp [Builtin.append_, run_underlying ht, run_underlying hx]
/-- What Insert leaves. -/
def InP (B g : Nat) (l vs : List Int) (i : Nat) (w : World) (e : Ending) (w' : World) : Prop :=
  ∃ g' c', e = .returned (.slice (some ⟨g', 0, none⟩) (l.length + vs.length) c') ∧ OwnL .i64 3 w' B (.slice (some ⟨g', 0, none⟩) (l.length + vs.length) c') (l.take i ++ vs ++ l.drop i) ∧ Bx (fun k => k = g) w w' ∧ (g' = g ∨ w.heap.size ≤ g')
theorem intR : ∃ i, Try.prog.info? 3 = some i ∧ i.zero = some (.int .i64 0) ∧ i.size = 1 ∧ i.bytes = 8 := info_parts eInt.info
theorem one_map (l : List Int) : ∀ v ∈ l.map (Value.int .i64), v.oneCell' = true := fun v hv => by
  obtain ⟨x, _, rfl⟩ := List.mem_map.1 hv; rfl
theorem own_src {w : World} {B g c : Nat} {l : List Int} (h : OwnL .i64 3 w B (.slice (some ⟨g, 0, none⟩) l.length c) l) : ∀ j v, (l.map (Value.int .i64))[j]? = some v → w.cell? ⟨g, j, none⟩ = some v := fun j v hv => by
  have hj : j < l.length := by have := (List.getElem?_eq_some_iff.1 hv).1; simpa using this
  rw [map_getD hj] at hv
  cases hv
  exact (h.cellN rfl).1 j hj

set_option maxRecDepth 100000 in
set_option maxHeartbeats 4000000 in
/-- At the end. -/
theorem insert_end (B g c vb vc : Nat) (l vs : List Int) (w : World) (Bv : Nat) (h : OwnL .i64 3 w B (.slice (some ⟨g, 0, none⟩) l.length c) l) (hv : OwnL .i64 3 w Bv (.slice (some ⟨vb, 0, none⟩) vs.length vc) vs) (hB : B ≤ w.heap.size)
    (hm : 0 < vs.length) (hz : l.length + vs.length ≤ 1000000) :
    Calls Try.prog 59 #[.slice (some ⟨g, 0, none⟩) l.length c, .int .i64 (l.length : Int), .slice (some ⟨vb, 0, none⟩) vs.length vc] w (InP B g l vs l.length w) := by
  obtain ⟨i0, hi0, hi1, hi2, hi3⟩ := intR
  have hcap := h.shape
  obtain ⟨a0, c0, e0, _, hlc, hcm, _, _⟩ := hcap
  cases e0
  obtain ⟨v', w', hr, h1, h2, -, h4⟩ := run_append_own_at w B 57 57 3 i0 (.int .i64 0) 1 8 Try.underlying57 hi0 hi1 hi2 hi3 rfl (by decide) _ l.length (l.map (Value.int .i64)) h ⟨vb, 0, none⟩ vs.length vc (vs.map (Value.int .i64)) (by simp)
    (fun j u hj => by rw [add_at, Nat.zero_add]; exact own_src hv j u hj) (one_map vs) (by unfold maxLen; omega) (by omega) hB
  rw [← app_ty Try.underlying57 Try.underlying22] at hr
  have ho : OwnL .i64 3 w' B v' (l ++ vs) := by unfold OwnL; rw [List.length_append, List.map_append]; exact h1
  have hP : Hid (InP B g l vs l.length w (.returned v') w') := hide (by
    obtain ⟨g', c', e, -⟩ := ho.pos (by rw [List.length_append]; omega)
    rw [List.length_append] at e
    subst e
    refine ⟨g', c', rfl, by rw [List.take_length, List.drop_length, List.append_nil]; exact ho, (Bx.refl _ _).grown h2 (fun k e _ => by cases e; rfl), ?_⟩
    rcases h4 with h4 | h4
    · left; cases h4; rfl
    · right; cases h4; exact Nat.le_refl _)
  have hz1 : ¬ ((vs.length : Int) = 0) := by omega
  have hmn : vs.length ≠ 0 := by omega
  clear h1 h2 h4 ho h hv hi0 hi1 hi2 hi3
  generalize l.length = n at *
  generalize vs.length = m at *
  go_enter Try.func59, Try.ntmps59
  go_wp2_with (at_builtin; refine Lib.wpList_append_run _ rfl _ _ _ _ rfl _ _ rfl rfl _ _ hr ?_)
  all_goals (
    go_ret
    exact unhide hP)

set_option maxRecDepth 100000 in
set_option maxHeartbeats 8000000 in
/-- There is room: in place. -/
theorem insert_shift (B g c vb vc i : Nat) (l vs : List Int) (w : World) (Bv : Nat) (h : OwnL .i64 3 w B (.slice (some ⟨g, 0, none⟩) l.length c) l) (hv : OwnL .i64 3 w Bv (.slice (some ⟨vb, 0, none⟩) vs.length vc) vs) (hne : vb ≠ g)
    (hi : i < l.length) (hm : 0 < vs.length) (hz : l.length + vs.length ≤ 1000000) (hroom : l.length + vs.length ≤ c) :
    Calls Try.prog 59 #[.slice (some ⟨g, 0, none⟩) l.length c, .int .i64 (i : Int), .slice (some ⟨vb, 0, none⟩) vs.length vc] w (InP B g l vs i w) := by
  obtain ⟨i0, hi0, hi1, hi2, hi3⟩ := intR
  have hsz : (Try.prog.info? 3).map (·.size) = some 1 := by rw [hi0]; simp [hi2]
  obtain ⟨h1, h2⟩ := id h
  rcases h2 with ⟨e, -⟩ | ⟨g', cap, cur, e, hBg, hcell, hnc, hcm, hcs, hct⟩
  · cases e
  cases e
  rw [Nat.mul_one] at hcs hct
  obtain ⟨gv1, gv2⟩ := id hv
  rcases gv2 with ⟨e, -⟩ | ⟨g', capv, curv, e, -, vcell, vnc, -, vcs, -⟩
  · cases e
  cases e
  have hgl : g < w.heap.size := (hv.lt rfl).2 |> fun _ => (h.lt rfl).2
  obtain ⟨X, hX⟩ : ∃ X, X = l.map (Value.int .i64) := ⟨_, rfl⟩
  obtain ⟨Y, hY⟩ : ∃ Y, Y = vs.map (Value.int .i64) := ⟨_, rfl⟩
  have hXl : X.length = l.length := by rw [hX, List.length_map]
  have hYl : Y.length = vs.length := by rw [hY, List.length_map]
  have hXo := one_map l
  have hYo := one_map vs
  have hXs := own_src h
  have hYs := own_src hv
  rw [← hX] at hct hXo hXs
  rw [← hY] at hYo hYs
  obtain ⟨R1, hR1⟩ : ∃ R1, R1 = cur.toList.take (i + vs.length) ++ X.drop i ++ cur.toList.drop (i + vs.length + (X.drop i).length) := ⟨_, rfl⟩
  have hdl : (X.drop i).length = l.length - i := by rw [List.length_drop, hXl]
  have hR1l : R1.length = c := by rw [hR1]; simp [hdl, hcs]; omega
  obtain ⟨R2, hR2⟩ : ∃ R2, R2 = R1.take i ++ Y ++ R1.drop (i + Y.length) := ⟨_, rfl⟩
  have hcl : cur.toList.length = c := by rw [Array.length_toList]; exact hcs
  have hcp1 : ∀ ty dc sc, (Builtin.copy_ #[57, 57] ty #[.slice (some ⟨g, i + vs.length, none⟩) (l.length + vs.length - (i + vs.length)) dc, .slice (some ⟨g, i, none⟩) (l.length + vs.length - i) sc]).run Try.prog w.drew = .ok (goInt (X.drop i).length) (w.drew.setRow g R1.toArray) := fun ty dc sc => by
    rw [hR1]
    exact run_copy_row Try.prog w.drew _ _ ty 3 g (i + vs.length) (l.length + vs.length - (i + vs.length)) dc ⟨g, i, none⟩ (l.length + vs.length - i) sc cur 3 (X.drop i) Try.underlying57 hsz hcell (by rw [hdl]; simp only [Nat.min_def]; split <;> omega)
      (fun j v hj => by rw [add_at]; exact hXs (i + j) v (by rwa [List.getElem?_drop] at hj)) (by rw [hdl]; omega) (fun v hv => hXo v (List.mem_of_mem_drop hv))
  obtain ⟨W1, hW1⟩ : ∃ W1, W1 = w.drew.setRow g R1.toArray := ⟨_, rfl⟩
  have hW1g : W1.heap[g]? = some (.cells R1.toArray 3 (0, 0)) := by rw [hW1]; exact setRow_heap w.drew g _ _ _ _ hcell
  have hcp2 : ∀ ty dc, (Builtin.copy_ #[57, 22] ty #[.slice (some ⟨g, i, none⟩) (l.length + vs.length - i) dc, .slice (some ⟨vb, 0, none⟩) vs.length vc]).run Try.prog W1 = .ok (goInt Y.length) (W1.setRow g R2.toArray) := fun ty dc => by
    rw [hR2]
    have := run_copy_row Try.prog W1 57 22 ty 3 g i (l.length + vs.length - i) dc ⟨vb, 0, none⟩ vs.length vc R1.toArray 3 Y Try.underlying57 hsz hW1g (by rw [hYl]; simp only [Nat.min_def]; split <;> omega)
      (fun j v hj => by
        rw [add_at, Nat.zero_add, hW1, World.cell?_of_block (w := w.drew) (setRow_other w.drew g vb R1.toArray hne)]
        exact hYs j v hj) (by rw [hYl]; simp; omega) hYo
    simpa using this
  rw [← hW1] at hcp1
  have hsp : w.shape? vb = some (3, curv.size) := by simp [World.shape?, vcell]
  have hsg : w.shape? g = some (3, cur.size) := by simp [World.shape?, hcell]
  have hfz := (hv.cellN rfl).2.1
  have hov : ∀ lb cb, (callFunc 77 #[.slice (some ⟨vb, 0, none⟩) vs.length vc, .slice (some ⟨g, i + vs.length, none⟩) lb cb]).run Try.prog w = .ok (.value (.bool false)) w := fun lb cb => by
    rw [run_callFunc_extern Try.func77 (by kernel_rfl) (by kernel_rfl) (by kernel_rfl) (e := Extern.SlicesOverlaps.overlaps #[22, 22] #[4]) (by kernel_rfl),
      Lib.run_overlaps_apart w 22 4 3 Try.underlying22 1 (fun w => by simp [sizeOf, typeInfo, hi0, hi2]) ⟨vb, 0, none⟩ ⟨g, i + vs.length, none⟩ vs.length vc lb cb hne 3 3 curv.size cur.size hsp hsg (by omega) (hfz 0) (hfz _)]
    rfl
  have hP : Hid (InP B g l vs i w (.returned (.slice (some ⟨g, 0, none⟩) (l.length + vs.length) c)) (W1.setRow g R2.toArray)) := hide (by
    have hb : ∀ R : Array Value, ∀ W : World, Bx (fun k => k = g) W (W.setRow g R) := fun R W => ⟨rfl, rfl, rfl, by simp [World.setRow], fun k _ hk => setRow_other W g k R hk⟩
    refine ⟨g, c, rfl, ?_, ?_, .inl rfl⟩
    · have hlen : (l.take i ++ vs ++ l.drop i).length = l.length + vs.length := by simp; omega
      unfold OwnL
      rw [hlen]
      refine ⟨by simp; omega, .inr ⟨g, c, R2.toArray, rfl, hBg, setRow_heap W1 g _ _ _ _ hW1g, by omega, hcm, ?_, ?_⟩⟩
      · rw [hR2]; simp [hR1l, hYl]; omega
      · rw [Nat.mul_one, hR2, List.toList_toArray]
        have e1 : R1.take i = X.take i := by
          rw [hR1, List.append_assoc, List.take_append_of_le_length (by simp; omega), List.take_take, Nat.min_eq_left (by omega), ← hct, List.take_take, Nat.min_eq_left (by omega)]
        have e2 : R1.drop (i + Y.length) = X.drop i ++ cur.toList.drop (i + vs.length + (X.drop i).length) := by
          rw [hR1, hYl, List.append_assoc, List.drop_append_of_le_length (by simp; omega), List.drop_of_length_le (by simp; omega), List.nil_append]
        rw [e1, e2, ← List.append_assoc, List.take_append_of_le_length (by simp [hXl, hYl]; omega), List.take_of_length_le (by simp [hXl, hYl]; omega), List.map_append, List.map_append, List.map_take, List.map_drop, ← hX, ← hY]
    · rw [hW1]
      exact ((Bx.refl _ w).drew.trans (hb _ _) (fun _ _ h => h)).trans (hb _ _) (fun _ _ h => h))
  have hz1 : ¬ ((vs.length : Int) = 0) := by omega
  have hmn : vs.length ≠ 0 := by omega
  have hz2 : ¬ ((i : Int) = (l.length : Int)) := by omega
  have hcm' : c ≤ 9223372036854775807 := by unfold maxLen at hcm; omega
  have hw1 : IntKind.i64.wrap ((i : Int) + (vs.length : Int)) = (i : Int) + (vs.length : Int) := by rw [IntKind.wrap_i64]; omega
  have hb1 : (0 : Int) ≤ (i : Int) + (vs.length : Int) := by omega
  have htn : ((i : Int) + (vs.length : Int)).toNat = i + vs.length := by omega
  have hb2 : ¬ (c = i + vs.length) := by omega
  have hb3 : (i : Int) ≤ (l.length : Int) + (vs.length : Int) := by omega
  have hb4 : ¬ (c = i) := by omega
  have hin : i ≤ l.length := by omega
  have hin2 : (i : Int) ≤ (l.length : Int) := by omega
  have hb5 : (i : Int) + (vs.length : Int) ≤ (l.length : Int) + (vs.length : Int) := by omega
  clear hW1g hW1 h hv h1 gv1 hcell vcell hct hXs hYs hXo hYo hR1 hR2 hX hY hsp hsg hfz hcs vcs hcl hi0 hi1 hi2 hi3 hsz hdl hR1l hXl
  generalize l.length = n at *
  generalize vs.length = m at *
  go_enter Try.func59, Try.ntmps59
  go_wp2_with (simp only [hov])
  go_region_law (refine st_copy_run rfl _ _ 57 57 rfl _ _ (by simp [Act.eval, Act.put]) (by simp [Act.eval, Act.put]) (hcp1 _ _ _) ?_)
  go_wp2_with (at_builtin; refine wpL_copy_run rfl _ _ 57 22 rfl _ _ rfl rfl (hcp2 _ _) ?_)
  go_ret
  exact unhide hP

theorem bx_setRow {X : Nat → Prop} {w W : World} {N : Nat} (h : Bx X w W) (hN : w.heap.size ≤ N) (R : Array Value) : Bx X w (W.setRow N R) :=
  ⟨h.os, h.tape, h.output, by have := h.size; simpa [World.setRow] using this, fun k hk hx => (setRow_other W N k R (by omega)).trans (h.block k hk hx)⟩
set_option maxRecDepth 100000 in
set_option maxHeartbeats 8000000 in
/-- There is none: a new row. -/
theorem insert_grow (B g c vb vc i : Nat) (l vs : List Int) (w : World) (Bv : Nat) (h : OwnL .i64 3 w B (.slice (some ⟨g, 0, none⟩) l.length c) l) (hv : OwnL .i64 3 w Bv (.slice (some ⟨vb, 0, none⟩) vs.length vc) vs) (hB : B ≤ w.heap.size)
    (hi : i < l.length) (hm : 0 < vs.length) (hz : l.length + vs.length ≤ 1000000) (hroom : c < l.length + vs.length) :
    Calls Try.prog 59 #[.slice (some ⟨g, 0, none⟩) l.length c, .int .i64 (i : Int), .slice (some ⟨vb, 0, none⟩) vs.length vc] w (InP B g l vs i w) := by
  obtain ⟨i0, hi0, hi1, hi2, hi3⟩ := intR
  have hsz : (Try.prog.info? 3).map (·.size) = some 1 := by rw [hi0]; simp [hi2]
  have hgl : g < w.heap.size := (h.lt rfl).2
  have hvl : vb < w.heap.size := (hv.lt rfl).2
  obtain ⟨_, _, e0, _, hnc, hcm, _, _⟩ := h.shape
  cases e0
  obtain ⟨X, hX⟩ : ∃ X, X = l.map (Value.int .i64) := ⟨_, rfl⟩
  obtain ⟨Y, hY⟩ : ∃ Y, Y = vs.map (Value.int .i64) := ⟨_, rfl⟩
  have hXl : X.length = l.length := by rw [hX, List.length_map]
  have hYl : Y.length = vs.length := by rw [hY, List.length_map]
  have hXo := one_map l
  have hYo := one_map vs
  have hXs := own_src h
  have hYs := own_src hv
  rw [← hX] at hXo hXs
  rw [← hY] at hYo hYs
  have hkk : (l.length : Int) + (vs.length : Int) - (i : Int) = ((l.length + vs.length - i : Nat) : Int) := by omega
  have hik : i + (l.length + vs.length - i) = l.length + vs.length := by omega
  obtain ⟨G, hG⟩ : ∃ G, G = grownCap w (l.length + vs.length) c 3 := ⟨_, rfl⟩
  have hold : (Builtin.firstCells i0.size i (.slice (some ⟨g, 0, none⟩) i c)).run Try.prog w.drew = .ok (X.take i).toArray w.drew := by
    rw [hi2]
    exact run_firstCells_some w.drew 1 i ⟨g, 0, none⟩ i c (X.take i) (by rw [List.length_take]; omega) (fun j v hj => by
      rw [add_at, Nat.zero_add]
      rw [List.getElem?_take] at hj
      split at hj
      · exact hXs j v hj
      · cases hj)
  obtain ⟨ROW, hROW⟩ : ∃ ROW : Array Value, ROW = (X.take i).toArray ++ Builtin.zeroCells (Value.int .i64 0).cells (l.length + vs.length - i) ++ Builtin.zeroCells (Value.int .i64 0).cells (G - (l.length + vs.length)) := ⟨_, rfl⟩
  have hrz : ∀ ty, (Builtin.append_ #[57, 3] ty #[.slice (some ⟨g, 0, none⟩) i c, .int .i64 ((l.length : Int) + (vs.length : Int) - (i : Int))]).run Try.prog w = .ok (.slice (some ⟨w.heap.size, 0, none⟩) (l.length + vs.length) G) (w.drew.alloc (.cells ROW 3)) := fun ty => by
    have h := Lib.run_append_grow_zeros w 57 3 ty 3 i0 _ .i64 .i64 Try.underlying57 Try.underlying3 hi0 hi1 (some ⟨g, 0, none⟩) i c (X.take i) hold (l.length + vs.length - i) (by omega) (by omega) (by omega) (by omega) (by rw [hi3]; omega) (by rw [hi3, hik]; exact growslice_fits hroom (by omega))
    rw [hik] at h
    rw [hkk, hROW, hG]
    exact h
  have hGn : l.length + vs.length ≤ G := by rw [hG]; exact grownCap_ge w _ _ _
  have hGm : G ≤ maxLen := by rw [hG]; exact grownCap_le_maxLen w _ _ _ (by unfold maxLen; omega)
  have hRl : ROW.size = G := by
    rw [hROW]
    simp [Builtin.zeroCells, Value.cells, hXl]
    omega
  have hRt : ROW.toList.take i = X.take i := by
    rw [hROW]
    simp only [Array.toList_append, List.append_assoc]
    rw [List.take_append_of_le_length (by simp [hXl]; omega), List.take_take, Nat.min_self]
  obtain ⟨R1, hR1⟩ : ∃ R1, R1 = ROW.toList.take i ++ Y ++ ROW.toList.drop (i + Y.length) := ⟨_, rfl⟩
  have hR1l : R1.length = G := by rw [hR1]; simp [hRl, hYl]; omega
  obtain ⟨R2, hR2⟩ : ∃ R2, R2 = R1.take (i + vs.length) ++ X.drop i ++ R1.drop (i + vs.length + (X.drop i).length) := ⟨_, rfl⟩
  have hdl : (X.drop i).length = l.length - i := by rw [List.length_drop, hXl]
  have hcpA : ∀ W : World, W.heap = (w.drew.alloc (.cells ROW 3)).heap → ∀ ty dc, (Builtin.copy_ #[57, 22] ty #[.slice (some ⟨w.heap.size, i, none⟩) (l.length + vs.length - i) dc, .slice (some ⟨vb, 0, none⟩) vs.length vc]).run Try.prog W = .ok (goInt Y.length) (W.setRow w.heap.size R1.toArray) := fun W hW ty dc => by
    rw [hR1]
    exact run_copy_row Try.prog W 57 22 ty 3 w.heap.size i (l.length + vs.length - i) dc ⟨vb, 0, none⟩ vs.length vc ROW 3 Y Try.underlying57 hsz (by rw [hW]; exact heap_alloc_new _ _) (by rw [hYl]; simp only [Nat.min_def]; split <;> omega)
      (fun j v hj => by
        rw [add_at, Nat.zero_add]
        have e : W.cell? ⟨vb, j, none⟩ = w.cell? ⟨vb, j, none⟩ := by
          refine World.cell?_of_block (w := w) ?_
          rw [hW]
          exact ((ballo w.drew (.cells ROW 3)).block vb hvl)
        rw [e]; exact hYs j v hj) (by rw [hYl]; omega) hYo
  have hcpB : ∀ W : World, W.heap = ((w.drew.alloc (.cells ROW 3)).setRow w.heap.size R1.toArray).heap → ∀ ty dc sc, (Builtin.copy_ #[57, 57] ty #[.slice (some ⟨w.heap.size, i + vs.length, none⟩) (l.length + vs.length - (i + vs.length)) dc, .slice (some ⟨g, i, none⟩) (l.length - i) sc]).run Try.prog W = .ok (goInt (X.drop i).length) (W.setRow w.heap.size R2.toArray) := fun W hW ty dc sc => by
    rw [hR2]
    have := run_copy_row Try.prog W 57 57 ty 3 w.heap.size (i + vs.length) (l.length + vs.length - (i + vs.length)) dc ⟨g, i, none⟩ (l.length - i) sc R1.toArray 3 (X.drop i) Try.underlying57 hsz (by rw [hW]; exact setRow_heap _ _ _ _ _ _ (heap_alloc_new _ _)) (by rw [hdl]; simp only [Nat.min_def]; split <;> omega)
      (fun j v hj => by
        rw [add_at]
        have e : W.cell? ⟨g, i + j, none⟩ = w.cell? ⟨g, i + j, none⟩ := by
          refine World.cell?_of_block (w := w) ?_
          rw [hW]
          exact (setRow_other _ w.heap.size g _ (Nat.ne_of_lt hgl)).trans ((ballo w.drew (.cells ROW 3)).block g hgl)
        rw [e]; exact hXs (i + j) v (by rwa [List.getElem?_drop] at hj)) (by rw [hdl]; simp; omega) (fun v hv => hXo v (List.mem_of_mem_drop hv))
    simpa using this
  have hP : Hid (∀ W : World, Bx (fun k => k = g) w W → W.heap[w.heap.size]? = some (.cells R2.toArray 3 (0, 0)) → InP B g l vs i w (.returned (.slice (some ⟨w.heap.size, 0, none⟩) (l.length + vs.length) G)) W) := hide fun W hb hh => by
    refine ⟨w.heap.size, G, rfl, ?_, hb, .inr (Nat.le_refl _)⟩
    have hlen : (l.take i ++ vs ++ l.drop i).length = l.length + vs.length := by simp; omega
    unfold OwnL
    rw [hlen]
    refine ⟨by simp; omega, .inr ⟨w.heap.size, G, R2.toArray, rfl, hB, hh, hGn, hGm, ?_, ?_⟩⟩
    · rw [hR2]; simp [hR1l, hdl]; omega
    · rw [Nat.mul_one, hR2, List.toList_toArray]
      have e1 : R1.take (i + vs.length) = X.take i ++ Y := by
        rw [hR1, hRt, List.take_append_of_le_length (by simp [hXl, hYl]; omega), List.take_of_length_le (by simp [hXl, hYl]; omega)]
      rw [e1, List.take_append_of_le_length (by simp [hXl, hYl]; omega), List.take_of_length_le (by simp [hXl, hYl]; omega), List.map_append, List.map_append, List.map_take, List.map_drop, ← hX, ← hY]
  have hz1 : ¬ ((vs.length : Int) = 0) := by omega
  have hmn : vs.length ≠ 0 := by omega
  have hz2 : ¬ ((i : Int) = (l.length : Int)) := by omega
  have hz3 : (c : Int) < (l.length : Int) + (vs.length : Int) := by omega
  have hcm' : c ≤ 9223372036854775807 := by unfold maxLen at hcm; omega
  have hG63 : G ≤ 9223372036854775807 := by unfold maxLen at hGm; omega
  have hw1 : IntKind.i64.wrap ((i : Int) + (vs.length : Int)) = (i : Int) + (vs.length : Int) := by rw [IntKind.wrap_i64]; omega
  have hb1 : (0 : Int) ≤ (i : Int) + (vs.length : Int) := by omega
  have htn : ((i : Int) + (vs.length : Int)).toNat = i + vs.length := by omega
  have hin : i ≤ l.length := by omega
  have hb3 : (i : Int) ≤ (l.length : Int) := by omega
  have hb5 : (i : Int) ≤ (l.length : Int) + (vs.length : Int) := by omega
  have hGi : ¬ (G = i) := by omega
  have hGim : ¬ (G = i + vs.length) := by omega
  have hci : ¬ (c = i) := by omega
  have hE1 : ((w.alloc (.cells ROW 3)).drew).heap = (w.drew.alloc (.cells ROW 3)).heap := rfl
  have hF1 : ((((w.alloc (.cells ROW 3)).drew).setRow w.heap.size R1.toArray).drew).heap = ((w.drew.alloc (.cells ROW 3)).setRow w.heap.size R1.toArray).heap := rfl
  have hF2 : ((w.drew.alloc (.cells ROW 3)).setRow w.heap.size R1.toArray).heap[w.heap.size]? = some (.cells R1.toArray 3 (0, 0)) := setRow_heap _ _ _ _ _ _ (heap_alloc_new _ _)
  clear h hv hXs hYs hXo hYo hR1 hR2 hX hY hi0 hi1 hi2 hi3 hsz hR1l hXl hRt hROW hG hold hik hkk hRl hGm hcm hdl
  have HF2 := hide hF2
  clear hF2
  generalize l.length = n at *
  generalize vs.length = m at *
  go_enter Try.func59, Try.ntmps59
  go_wp2_with (first
    | (at_builtin; refine Lib.wpList_append_run _ rfl _ _ _ _ rfl _ _ rfl rfl _ _ (hrz _) ?_)
    | (at_builtin; refine wpL_copy_run rfl _ _ 57 22 rfl _ _ rfl rfl (hcpA _ hE1 _ _) ?_))
  go_region_law (refine st_copy_run rfl _ _ 57 57 rfl (.slice (some ⟨w.heap.size, i + m, none⟩) (n + m - (i + m)) (G - (i + m))) (.slice (some ⟨g, i, none⟩) (n - i) (c - i)) (by simp [Act.eval, Act.put]) (by simp [Act.eval, Act.put]) (hcpB _ hF1 3 (G - (i + m)) (c - i)) ?_)
  go_wp2
  go_ret
  refine unhide hP _ (bx_setRow (bx_setRow ((Bx.refl _ w).alloc _).drew (Nat.le_refl _) _).drew (Nat.le_refl _) _) ?_
  exact setRow_heap _ _ _ _ _ _ (unhide HF2)
theorem insert_any (B g c vb vc i : Nat) (l vs : List Int) (w : World) (Bv : Nat) (h : OwnL .i64 3 w B (.slice (some ⟨g, 0, none⟩) l.length c) l) (hv : OwnL .i64 3 w Bv (.slice (some ⟨vb, 0, none⟩) vs.length vc) vs) (hne : vb ≠ g) (hB : B ≤ w.heap.size)
    (hi : i ≤ l.length) (hm : 0 < vs.length) (hz : l.length + vs.length ≤ 1000000) :
    Calls Try.prog 59 #[.slice (some ⟨g, 0, none⟩) l.length c, .int .i64 (i : Int), .slice (some ⟨vb, 0, none⟩) vs.length vc] w (InP B g l vs i w) := by
  by_cases e : i = l.length
  · subst e; exact insert_end B g c vb vc l vs w Bv h hv hB hm hz
  · by_cases r : c < l.length + vs.length
    · exact insert_grow B g c vb vc i l vs w Bv h hv hB (by omega) hm hz r
    · exact insert_shift B g c vb vc i l vs w Bv h hv hne (by omega) hm hz (by omega)

end Go.Proofs.Ytepmdnggiajkbaa

/-
  The program's table: one of its rows is another, and the object says so.
-/
namespace Go.Proofs.Ytepmdnggiajkbaa
set_option linter.unusedVariables false
open Go.RowKit

/-- The table's blocks afterwards: old ones, or new ones. -/
def Gw (p p' : Tl) (N : Nat) : Prop := ∀ k, p'.has k → p.has k ∨ N ≤ k
theorem Gw.refl (p : Tl) (N : Nat) : Gw p p N := fun _ h => .inl h
theorem Gw.trans {p q r : Tl} {N M : Nat} (h : Gw p q N) (g : Gw q r M) (hN : N ≤ M) : Gw p r N := fun k hk => (g k hk).elim (h k) fun e => .inr (Nat.le_trans hN e)
/-- The object's blocks are as they were, but one. -/
structure KeO (J : Nat) (W0 : World) (p : Tl) (W : World) : Prop where
  bx : Bx p.has W0 W
  ke : ∀ i b, i ≠ J → p.bk i = some b → W.heap[b]? = W0.heap[b]?
theorem KeO.refl (J : Nat) (W0 : World) (p : Tl) : KeO J W0 p W0 := ⟨Bx.refl _ _, fun _ _ _ _ => rfl⟩
theorem dis_upd {p q : Tl} {I N : Nat} {x : Option Nat} (hd : ∀ i j k, p.bk i = some k → p.bk j = some k → i = j) (hq : ∀ i, q.bk i = if i = I then x else p.bk i) (hn : ∀ k, x = some k → p.bk I = some k ∨ N ≤ k) (hl : ∀ i k, p.bk i = some k → k < N) :
    ∀ i j k, q.bk i = some k → q.bk j = some k → i = j := by
  intro i j k hi hj
  rw [hq] at hi hj
  by_cases ci : i = I <;> by_cases cj : j = I
  · omega
  · rw [if_pos ci] at hi
    rw [if_neg cj] at hj
    rcases hn k hi with e | e
    · exact absurd (hd I j k e hj).symm cj
    · have := hl j k hj; omega
  · rw [if_neg ci] at hi
    rw [if_pos cj] at hj
    rcases hn k hj with e | e
    · exact absurd (hd I i k e hi).symm ci
    · have := hl i k hi; omega
  · rw [if_neg ci] at hi
    rw [if_neg cj] at hj
    exact hd i j k hi hj
theorem Gw.upd {p q : Tl} {I N : Nat} {x : Option Nat} (hq : ∀ i, q.bk i = if i = I then x else p.bk i) (hn : ∀ k, x = some k → p.bk I = some k ∨ N ≤ k) : Gw p q N := by
  rintro k ⟨i, hi⟩
  rw [hq] at hi
  by_cases c : i = I
  · rw [if_pos c] at hi
    rcases hn k hi with e | e
    · exact .inl ⟨I, e⟩
    · exact .inr e
  · rw [if_neg c] at hi
    exact .inl ⟨i, hi⟩
section
variable {B : Nat} {w w' : World} {p : Tl} {s : Ts}
theorem KeO.below {J : Nat} {W0 W W' : World} (h : KeO J W0 p W) (hb : Below W.heap.size W W') (hl : ∀ i b, p.bk i = some b → b < W0.heap.size) : KeO J W0 p W' :=
  ⟨Bx.trans h.bx (Bx.of (X := p.has) hb) (fun _ _ h => h), fun i b hi e => (hb.block b (Nat.lt_of_lt_of_le (hl i b e) h.bx.size)).trans (h.ke i b hi e)⟩
theorem KeO.drew {J : Nat} {W0 W : World} (h : KeO J W0 p W) : KeO J W0 p W.drew := ⟨h.bx.drew, h.ke⟩
theorem KeO.to {W0 W : World} (k : KeO 99 W0 p W) (h : To B W0 p s) : To B W p s := h.keep fun i b e => k.ke i b (fun q => by
  subst q
  unfold Tl.bk at e
  simp at e) e
theorem KeO.cell {J : Nat} {W0 W : World} (k : KeO J W0 p W) (h : To B W0 p s) (hJ : J ≠ 0) (i : Nat) : W.cell? ⟨p.b, i, none⟩ = (toC p s)[i]? := by
  have : Bk W p.b (toC p s) 62 := (k.ke 0 p.b (Ne.symm hJ) rfl).trans h.o
  exact this.cell i
theorem KeO.frz {J : Nat} {W0 W : World} (k : KeO J W0 p W) (h : To B W0 p s) (hJ : J ≠ 0) (i : Nat) : W.frozen? ⟨p.b, i, none⟩ = false := by
  have : Bk W p.b (toC p s) 62 := (k.ke 0 p.b (Ne.symm hJ) rfl).trans h.o
  exact this.frz i
theorem KeO.oth {J : Nat} {W0 W : World} (k : KeO J W0 p W) {bx : Nat} (hx : ¬ p.has bx) {v : Value} (h : W0.cell? ⟨bx, 0, none⟩ = some v) : W.cell? ⟨bx, 0, none⟩ = some v := k.bx.cell h hx
theorem Bx.set1 {X : Nat → Prop} {a w : World} (h : Bx X a w) (b i : Nat) (hb : X b) (u : Value) : Bx X a (w.setCell ⟨b, i, none⟩ u) := h.setCell (p := ⟨b, i, none⟩) hb u

theorem To.new3 (h : To B w p s) {w1 : World} {g' c' : Nat} {R : List Ln} (hO : OwnG 54 4 lnE w1 B (.slice (some ⟨g', 0, none⟩) R.length c') R) (k : KeO 3 w p w1)
    (hn : ∀ k, some g' = some k → p.bk 3 = some k ∨ w.heap.size ≤ k) : To B (w1.setCell ⟨p.b, 4, none⟩ (.slice (some ⟨g', 0, none⟩) R.length c')) { p with gl := g', cl := c' } { s with ls := R } ∧ Bx p.has w (w1.setCell ⟨p.b, 4, none⟩ (.slice (some ⟨g', 0, none⟩) R.length c')) ∧ Gw p { p with gl := g', cl := c' } w.heap.size := by
  have hbk : ∀ i, ({ p with gl := g', cl := c' } : Tl).bk i = if i = 3 then some g' else p.bk i := by
    intro i
    unfold Tl.bk
    by_cases e : i = 3
    · subst e; rfl
    · rw [if_neg e]
      split <;> first | rfl | (split <;> first | rfl | (split <;> first | rfl | (split <;> first | rfl | (split <;> first | rfl | (split <;> first | rfl | (split <;> first | rfl | (split <;> first | rfl | omega)))))))
  have kk : ∀ i b, i ≠ 3 → i ≠ 0 → p.bk i = some b → (w1.setCell ⟨p.b, 4, none⟩ (.slice (some ⟨g', 0, none⟩) R.length c')).heap[b]? = w.heap[b]? := fun i b hi h0 e => by
    have hne : b ≠ p.b := h.ne e (show p.bk 0 = some p.b from rfl) h0
    rw [Below.heap_setCell _ _ _ _ hne]; exact k.ke i b hi e
  have hlt : p.b < w.heap.size := h.o.lt
  refine ⟨⟨?_, h.mf.keep (kk 1 _ (by decide) (by decide) rfl), h.mc.keep (kk 2 _ (by decide) (by decide) rfl), ?_, h.od.keep fun b e => kk 4 b (by decide) (by decide) e, h.rw.keep fun b e => kk 5 b (by decide) (by decide) (by rw [ob_sl] at e; exact e), h.cs.keep fun b e => kk 6 b (by decide) (by decide) (by rw [ob_sl] at e; exact e), h.kn.keep fun b e => kk 7 b (by decide) (by decide) (by rw [ob_sl] at e; exact e), fun i j k => dis_upd h.dis hbk hn (fun i k e => (h.lt e).2) i j k, h.base⟩, (k.bx).set1 p.b 4 ⟨0, rfl⟩ _, Gw.upd hbk hn⟩
  · have hb : Bk w1 p.b (toC p s) 62 := (k.ke 0 _ (by decide) rfl).trans h.o
    exact hb.set 4 (.slice (some ⟨g', 0, none⟩) R.length c')
  · refine hO.keep fun b e => Below.heap_setCell _ _ _ _ ?_
    intro q
    subst q
    rcases hn p.b (by exact e) with z | z
    · have := h.dis 3 0 p.b z rfl; omega
    · omega
theorem To.new4 (h : To B w p s) {w1 : World} {g' c' : Nat} {R : List Nat} (hO : OwnL .i64 3 w1 B (.slice (some ⟨g', 0, none⟩) R.length c') (ni R)) (k : KeO 4 w p w1)
    (hn : ∀ k, some g' = some k → p.bk 4 = some k ∨ w.heap.size ≤ k) : To B (w1.setCell ⟨p.b, 6, none⟩ (.slice (some ⟨g', 0, none⟩) R.length c')) { p with go := g', co := c' } { s with ord := R } ∧ Bx p.has w (w1.setCell ⟨p.b, 6, none⟩ (.slice (some ⟨g', 0, none⟩) R.length c')) ∧ Gw p { p with go := g', co := c' } w.heap.size := by
  have hbk : ∀ i, ({ p with go := g', co := c' } : Tl).bk i = if i = 4 then some g' else p.bk i := by
    intro i
    unfold Tl.bk
    by_cases e : i = 4
    · subst e; rfl
    · rw [if_neg e]
      split <;> first | rfl | (split <;> first | rfl | (split <;> first | rfl | (split <;> first | rfl | (split <;> first | rfl | (split <;> first | rfl | (split <;> first | rfl | (split <;> first | rfl | omega)))))))
  have kk : ∀ i b, i ≠ 4 → i ≠ 0 → p.bk i = some b → (w1.setCell ⟨p.b, 6, none⟩ (.slice (some ⟨g', 0, none⟩) R.length c')).heap[b]? = w.heap[b]? := fun i b hi h0 e => by
    have hne : b ≠ p.b := h.ne e (show p.bk 0 = some p.b from rfl) h0
    rw [Below.heap_setCell _ _ _ _ hne]; exact k.ke i b hi e
  have hlt : p.b < w.heap.size := h.o.lt
  refine ⟨⟨?_, h.mf.keep (kk 1 _ (by decide) (by decide) rfl), h.mc.keep (kk 2 _ (by decide) (by decide) rfl), h.ls.keep fun b e => kk 3 b (by decide) (by decide) e, ?_, h.rw.keep fun b e => kk 5 b (by decide) (by decide) (by rw [ob_sl] at e; exact e), h.cs.keep fun b e => kk 6 b (by decide) (by decide) (by rw [ob_sl] at e; exact e), h.kn.keep fun b e => kk 7 b (by decide) (by decide) (by rw [ob_sl] at e; exact e), fun i j k => dis_upd h.dis hbk hn (fun i k e => (h.lt e).2) i j k, h.base⟩, (k.bx).set1 p.b 6 ⟨0, rfl⟩ _, Gw.upd hbk hn⟩
  · have hb : Bk w1 p.b (toC p s) 62 := (k.ke 0 _ (by decide) rfl).trans h.o
    exact hb.set 6 (.slice (some ⟨g', 0, none⟩) R.length c')
  · refine hO.keep fun b e => Below.heap_setCell _ _ _ _ ?_
    intro q
    subst q
    rcases hn p.b (by exact e) with z | z
    · have := h.dis 4 0 p.b z rfl; omega
    · omega
theorem To.new5 (h : To B w p s) {w1 : World} {a' : Option Addr} {c' : Nat} {R : List Nat} (hO : OwnL .i64 3 w1 B (.slice a' R.length c') (ni R)) (k : KeO 5 w p w1)
    (hn : ∀ k, obk a' = some k → p.bk 5 = some k ∨ w.heap.size ≤ k) : To B (w1.setCell ⟨p.b, 5, none⟩ (.slice a' R.length c')) { p with ar := a', cr := c' } { s with rows := R } ∧ Bx p.has w (w1.setCell ⟨p.b, 5, none⟩ (.slice a' R.length c')) ∧ Gw p { p with ar := a', cr := c' } w.heap.size := by
  have hbk : ∀ i, ({ p with ar := a', cr := c' } : Tl).bk i = if i = 5 then obk a' else p.bk i := by
    intro i
    unfold Tl.bk
    by_cases e : i = 5
    · subst e; rfl
    · rw [if_neg e]
      split <;> first | rfl | (split <;> first | rfl | (split <;> first | rfl | (split <;> first | rfl | (split <;> first | rfl | (split <;> first | rfl | (split <;> first | rfl | (split <;> first | rfl | omega)))))))
  have kk : ∀ i b, i ≠ 5 → i ≠ 0 → p.bk i = some b → (w1.setCell ⟨p.b, 5, none⟩ (.slice a' R.length c')).heap[b]? = w.heap[b]? := fun i b hi h0 e => by
    have hne : b ≠ p.b := h.ne e (show p.bk 0 = some p.b from rfl) h0
    rw [Below.heap_setCell _ _ _ _ hne]; exact k.ke i b hi e
  have hlt : p.b < w.heap.size := h.o.lt
  refine ⟨⟨?_, h.mf.keep (kk 1 _ (by decide) (by decide) rfl), h.mc.keep (kk 2 _ (by decide) (by decide) rfl), h.ls.keep fun b e => kk 3 b (by decide) (by decide) e, h.od.keep fun b e => kk 4 b (by decide) (by decide) e, ?_, h.cs.keep fun b e => kk 6 b (by decide) (by decide) (by rw [ob_sl] at e; exact e), h.kn.keep fun b e => kk 7 b (by decide) (by decide) (by rw [ob_sl] at e; exact e), fun i j k => dis_upd h.dis hbk hn (fun i k e => (h.lt e).2) i j k, h.base⟩, (k.bx).set1 p.b 5 ⟨0, rfl⟩ _, Gw.upd hbk hn⟩
  · have hb : Bk w1 p.b (toC p s) 62 := (k.ke 0 _ (by decide) rfl).trans h.o
    exact hb.set 5 (.slice a' R.length c')
  · refine hO.keep fun b e => Below.heap_setCell _ _ _ _ ?_
    intro q
    subst q
    rcases hn p.b (by rw [ob_sl] at e; exact e) with z | z
    · have := h.dis 5 0 p.b z rfl; omega
    · omega
theorem To.new6 (h : To B w p s) {w1 : World} {a' : Option Addr} {c' : Nat} {R : List (List Int)} (hO : OwnG 47 1 spE w1 B (.slice a' R.length c') R) (k : KeO 6 w p w1)
    (hn : ∀ k, obk a' = some k → p.bk 6 = some k ∨ w.heap.size ≤ k) : To B (w1.setCell ⟨p.b, 7, none⟩ (.slice a' R.length c')) { p with ac := a', cc := c' } { s with cols := R } ∧ Bx p.has w (w1.setCell ⟨p.b, 7, none⟩ (.slice a' R.length c')) ∧ Gw p { p with ac := a', cc := c' } w.heap.size := by
  have hbk : ∀ i, ({ p with ac := a', cc := c' } : Tl).bk i = if i = 6 then obk a' else p.bk i := by
    intro i
    unfold Tl.bk
    by_cases e : i = 6
    · subst e; rfl
    · rw [if_neg e]
      split <;> first | rfl | (split <;> first | rfl | (split <;> first | rfl | (split <;> first | rfl | (split <;> first | rfl | (split <;> first | rfl | (split <;> first | rfl | (split <;> first | rfl | omega)))))))
  have kk : ∀ i b, i ≠ 6 → i ≠ 0 → p.bk i = some b → (w1.setCell ⟨p.b, 7, none⟩ (.slice a' R.length c')).heap[b]? = w.heap[b]? := fun i b hi h0 e => by
    have hne : b ≠ p.b := h.ne e (show p.bk 0 = some p.b from rfl) h0
    rw [Below.heap_setCell _ _ _ _ hne]; exact k.ke i b hi e
  have hlt : p.b < w.heap.size := h.o.lt
  refine ⟨⟨?_, h.mf.keep (kk 1 _ (by decide) (by decide) rfl), h.mc.keep (kk 2 _ (by decide) (by decide) rfl), h.ls.keep fun b e => kk 3 b (by decide) (by decide) e, h.od.keep fun b e => kk 4 b (by decide) (by decide) e, h.rw.keep fun b e => kk 5 b (by decide) (by decide) (by rw [ob_sl] at e; exact e), ?_, h.kn.keep fun b e => kk 7 b (by decide) (by decide) (by rw [ob_sl] at e; exact e), fun i j k => dis_upd h.dis hbk hn (fun i k e => (h.lt e).2) i j k, h.base⟩, (k.bx).set1 p.b 7 ⟨0, rfl⟩ _, Gw.upd hbk hn⟩
  · have hb : Bk w1 p.b (toC p s) 62 := (k.ke 0 _ (by decide) rfl).trans h.o
    exact hb.set 7 (.slice a' R.length c')
  · refine hO.keep fun b e => Below.heap_setCell _ _ _ _ ?_
    intro q
    subst q
    rcases hn p.b (by rw [ob_sl] at e; exact e) with z | z
    · have := h.dis 6 0 p.b z rfl; omega
    · omega
theorem To.new7 (h : To B w p s) {w1 : World} {a' : Option Addr} {c' : Nat} {R : List Nat} (hO : OwnL .i64 3 w1 B (.slice a' R.length c') (ni R)) (k : KeO 7 w p w1)
    (hn : ∀ k, obk a' = some k → p.bk 7 = some k ∨ w.heap.size ≤ k) : To B (w1.setCell ⟨p.b, 8, none⟩ (.slice a' R.length c')) { p with ak := a', ck := c' } { s with kn := R } ∧ Bx p.has w (w1.setCell ⟨p.b, 8, none⟩ (.slice a' R.length c')) ∧ Gw p { p with ak := a', ck := c' } w.heap.size := by
  have hbk : ∀ i, ({ p with ak := a', ck := c' } : Tl).bk i = if i = 7 then obk a' else p.bk i := by
    intro i
    unfold Tl.bk
    by_cases e : i = 7
    · subst e; rfl
    · rw [if_neg e]
      split <;> first | rfl | (split <;> first | rfl | (split <;> first | rfl | (split <;> first | rfl | (split <;> first | rfl | (split <;> first | rfl | (split <;> first | rfl | (split <;> first | rfl | omega)))))))
  have kk : ∀ i b, i ≠ 7 → i ≠ 0 → p.bk i = some b → (w1.setCell ⟨p.b, 8, none⟩ (.slice a' R.length c')).heap[b]? = w.heap[b]? := fun i b hi h0 e => by
    have hne : b ≠ p.b := h.ne e (show p.bk 0 = some p.b from rfl) h0
    rw [Below.heap_setCell _ _ _ _ hne]; exact k.ke i b hi e
  have hlt : p.b < w.heap.size := h.o.lt
  refine ⟨⟨?_, h.mf.keep (kk 1 _ (by decide) (by decide) rfl), h.mc.keep (kk 2 _ (by decide) (by decide) rfl), h.ls.keep fun b e => kk 3 b (by decide) (by decide) e, h.od.keep fun b e => kk 4 b (by decide) (by decide) e, h.rw.keep fun b e => kk 5 b (by decide) (by decide) (by rw [ob_sl] at e; exact e), h.cs.keep fun b e => kk 6 b (by decide) (by decide) (by rw [ob_sl] at e; exact e), ?_, fun i j k => dis_upd h.dis hbk hn (fun i k e => (h.lt e).2) i j k, h.base⟩, (k.bx).set1 p.b 8 ⟨0, rfl⟩ _, Gw.upd hbk hn⟩
  · have hb : Bk w1 p.b (toC p s) 62 := (k.ke 0 _ (by decide) rfl).trans h.o
    exact hb.set 8 (.slice a' R.length c')
  · refine hO.keep fun b e => Below.heap_setCell _ _ _ _ ?_
    intro q
    subst q
    rcases hn p.b (by rw [ob_sl] at e; exact e) with z | z
    · have := h.dis 7 0 p.b z rfl; omega
    · omega
end

end Go.Proofs.Ytepmdnggiajkbaa
