/-
  Some texts of this seat, one behind the other.
-/
import Derived.Shelf.Abstract
import Derived.Test.YtlcablkhomnieaaJAct
import Derived.Test.YtlcablkhomnieaaK19
import Derived.Test.YtlcablkhomnieaaK27
import Derived.Test.YtlcablkhomnieaaK45
/-
  Statements of the program's tree whose order is open.
-/
namespace Go.Proofs.Ytlcablkhomnieaa
set_option linter.unusedVariables false
open Go.RowKit

theorem ldSpA {w : World} {b : Nat} {q0 : Option Addr} {q1 : ByteArray} {q2 : Int} (h : Bk w b [.pointer q0, .string q1, .int .i64 q2] 89) : (Instr.loadAt 89 (.pointer (some ⟨b, 0, none⟩))).run Try.prog w = .ok (.agg #[.pointer q0, .string q1, .int .i64 q2]) w := by
  have h0 : _ = some (Value.pointer q0) := h.cell 0
  have h1 : _ = some (Value.string q1) := h.cell 1
  have h2 : _ = some (Value.int .i64 q2) := h.cell 2
  go_simp
theorem ldRl {w : World} {b k : Nat} {v : Value} (h : w.cell? ⟨b, k, none⟩ = some v) : (Instr.loadAt 81 (.pointer (some ⟨b, k, none⟩))).run Try.prog w = .ok v w := by
  go_simp
theorem ldRi {w : World} {b k : Nat} {v : Value} (h : w.cell? ⟨b, k, none⟩ = some v) : (Instr.loadAt 29 (.pointer (some ⟨b, k, none⟩))).run Try.prog w = .ok v w := by
  go_simp
theorem ldLf {w : World} {b k : Nat} {v : Value} (h : w.cell? ⟨b, k, none⟩ = some v) : (Instr.loadAt 84 (.pointer (some ⟨b, k, none⟩))).run Try.prog w = .ok v w := by
  go_simp
theorem fldR4 {w : World} {b : Nat} : (Instr.fieldAt 83 (.pointer (some ⟨b, 0, none⟩)) 4).run Try.prog w = .ok (.pointer (some ⟨b, 4, none⟩)) w := by go_simp
theorem fldR6 {w : World} {b : Nat} : (Instr.fieldAt 83 (.pointer (some ⟨b, 0, none⟩)) 6).run Try.prog w = .ok (.pointer (some ⟨b, 6, none⟩)) w := by go_simp
theorem fldI1 {w : World} {b : Nat} : (Instr.fieldAt 98 (.pointer (some ⟨b, 0, none⟩)) 1).run Try.prog w = .ok (.pointer (some ⟨b, 3, none⟩)) w := by go_simp
theorem fldL2 {w : World} {b : Nat} : (Instr.fieldAt 111 (.pointer (some ⟨b, 0, none⟩)) 2).run Try.prog w = .ok (.pointer (some ⟨b, 4, none⟩)) w := by go_simp
theorem run_litJ {w : World} {ao : Option Addr} {n c : Nat} : (Instr.buildSlice 32 1 #[(0, .slice ao n c)]).run Try.prog w = .ok (.slice (some ⟨w.heap.size, 0, none⟩) 1 1) (w.alloc (.cells #[.slice ao n c] 29)) := by
  go_simp
theorem run_litJ2 {w : World} {ao bo : Option Addr} {n c m d : Nat} : (Instr.buildSlice 32 2 #[(0, .slice ao n c), (1, .slice bo m d)]).run Try.prog w = .ok (.slice (some ⟨w.heap.size, 0, none⟩) 2 2) (w.alloc (.cells #[.slice ao n c, .slice bo m d] 29)) := by
  go_simp
theorem run_bldLf {w : World} {q0 : Option Addr} {q1 : ByteArray} {q2 q3 : Int} {a : Option Addr} {n c : Nat} : (Instr.build 111 #[(0, .agg #[.pointer q0, .string q1, .int .i64 q2]), (1, .int .i64 q3), (2, .slice a n c)]).run Try.prog w = .ok (.agg #[.pointer q0, .string q1, .int .i64 q2, .int .i64 q3, .slice a n c]) w := by
  go_simp
theorem run_bldIn {w : World} {q0 : Option Addr} {q1 : ByteArray} {q2 : Int} {a : Option Addr} {n c m : Nat} : (Instr.build 98 #[(0, .agg #[.pointer q0, .string q1, .int .i64 q2]), (1, .slice a n c), (2, .map (some m))]).run Try.prog w = .ok (.agg #[.pointer q0, .string q1, .int .i64 q2, .slice a n c, .map (some m)]) w := by
  go_simp
theorem run_boxLf {w : World} {q0 : Option Addr} {q1 : ByteArray} {q2 q3 : Int} {a : Option Addr} {n c : Nat} : (Instr.box 111 (.agg #[.pointer q0, .string q1, .int .i64 q2, .int .i64 q3, .slice a n c])).run Try.prog w = .ok (.pointer (some ⟨w.heap.size, 0, none⟩)) (w.alloc (.cells #[.pointer q0, .string q1, .int .i64 q2, .int .i64 q3, .slice a n c] 111)) := by
  go_simp
theorem run_boxIn {w : World} {q0 : Option Addr} {q1 : ByteArray} {q2 : Int} {a : Option Addr} {n c m : Nat} : (Instr.box 98 (.agg #[.pointer q0, .string q1, .int .i64 q2, .slice a n c, .map (some m)])).run Try.prog w = .ok (.pointer (some ⟨w.heap.size, 0, none⟩)) (w.alloc (.cells #[.pointer q0, .string q1, .int .i64 q2, .slice a n c, .map (some m)] 98)) := by
  go_simp

def ms0 : Oper := { dst := some 8, op := Op.load 89 (Operand.tmp 4), type := 89, pos := "node.go:69", after := #[], guard := none }
def ms1 : Oper := { dst := some 9, op := Op.move (Operand.tmp 0), type := 25, pos := "node.go:69", after := #[], guard := none }
def ms2 : Oper := { dst := some 10, op := Op.nilCheck (Operand.tmp 9), type := 0, pos := "node.go:69", after := #[{ on := 1, ground := Ground.data }], guard := none }
def ms3 : Oper := { dst := some 11, op := Op.fieldAddr 83 (Operand.tmp 10) 4, type := 0, pos := "node.go:69", after := #[{ on := 2, ground := Ground.data }], guard := none }
def ms4 : Oper := { dst := some 12, op := Op.load 81 (Operand.tmp 11), type := 81, pos := "node.go:69", after := #[{ on := 3, ground := Ground.data }], guard := none }
def ms5 : Oper := { dst := some 13, op := Op.call { callee := Callee.builtin Builtin.len, args := #[Operand.tmp 12], argTypes := #[81] }, type := 3, pos := "node.go:69", after := #[{ on := 4, ground := Ground.data }], guard := none }
def ms6 : Oper := { dst := some 14, op := Op.move (Operand.tmp 2), type := 29, pos := "node.go:69", after := #[], guard := none }
def ms7 : Oper := { dst := some 15, op := Op.buildSlice 32 1 #[(0, Operand.tmp 14)], type := 32, pos := "node.go:69", after := #[{ on := 6, ground := Ground.data }], guard := none }
def ms8 : Oper := { dst := some 16, op := Op.call { callee := Callee.value (Operand.func 41), args := #[Operand.tmp 15], argTypes := #[32] }, type := 29, pos := "node.go:69", after := #[{ on := 7, ground := Ground.data }], guard := none }
def ms9 : Oper := { dst := some 17, op := Op.build 111 #[(0, Operand.tmp 8), (1, Operand.tmp 13), (2, Operand.tmp 16)], type := 111, pos := "node.go:69", after := #[{ on := 0, ground := Ground.data }, { on := 5, ground := Ground.data }, { on := 8, ground := Ground.data }], guard := none }
def ms10 : Oper := { dst := some 18, op := Op.box 111 (Operand.tmp 17), type := 84, pos := "node.go:69", after := #[{ on := 9, ground := Ground.data }], guard := none }
def ms11 : Oper := { dst := some 7, op := Op.assign (Operand.tmp 18), type := 84, pos := "node.go:69", after := #[{ on := 10, ground := Ground.data }, { on := 8, ground := Ground.chain }, { on := 0, ground := Ground.phase }, { on := 1, ground := Ground.phase }, { on := 2, ground := Ground.phase }, { on := 3, ground := Ground.phase }, { on := 4, ground := Ground.phase }, { on := 5, ground := Ground.phase }, { on := 6, ground := Ground.phase }, { on := 7, ground := Ground.phase }, { on := 8, ground := Ground.phase }, { on := 9, ground := Ground.phase }, { on := 10, ground := Ground.phase }], guard := none }
def msOps : Array Oper := #[ms0, ms1, ms2, ms3, ms4, ms5, ms6, ms7, ms8, ms9, ms10, ms11]

def msT (N b L : Nat) (sb : Nat) (uq : Option Addr) (us : ByteArray) (ud : Int) (lv : Option Addr) (lc : Nat) (aw : Option Addr) (cw : Nat) (l : List Int) : Nat → Value → World → Prop
  | 0, v, _ => v = .agg #[.pointer uq, .string us, .int .i64 ud]
  | 1, v, _ => v = .pointer (some ⟨b, 0, none⟩)
  | 2, v, _ => v = .pointer (some ⟨b, 0, none⟩)
  | 3, v, _ => v = .pointer (some ⟨b, 4, none⟩)
  | 4, v, _ => v = .slice lv L lc
  | 5, v, _ => v = .int .i64 (L : Int)
  | 6, v, _ => v = .slice aw l.length cw
  | 7, v, W => ∃ g, v = .slice (some ⟨g, 0, none⟩) 1 1 ∧ W.cell? ⟨g, 0, none⟩ = some (.slice aw l.length cw)
  | 8, v, W => ∃ a1 c1, v = .slice a1 l.length c1 ∧ OwnL .i64 3 W N (.slice a1 l.length c1) l
  | 9, v, W => ∃ a1 c1, v = .agg #[.pointer uq, .string us, .int .i64 ud, .int .i64 (L : Int), .slice a1 l.length c1] ∧ OwnL .i64 3 W N (.slice a1 l.length c1) l
  | 10, v, W => ∃ g a1 c1, v = .pointer (some ⟨g, 0, none⟩) ∧ N ≤ g ∧ Bk W g [.pointer uq, .string us, .int .i64 ud, .int .i64 (L : Int), .slice a1 l.length c1] 111 ∧ OwnL .i64 3 W N (.slice a1 l.length c1) l
  | 11, v, W => ∃ g a1 c1, v = .pointer (some ⟨g, 0, none⟩) ∧ N ≤ g ∧ Bk W g [.pointer uq, .string us, .int .i64 ud, .int .i64 (L : Int), .slice a1 l.length c1] 111 ∧ OwnL .i64 3 W N (.slice a1 l.length c1) l
  | _, _, _ => True
theorem msT_below (N b L : Nat) (sb : Nat) (uq : Option Addr) (us : ByteArray) (ud : Int) (lv : Option Addr) (lc : Nat) (aw : Option Addr) (cw : Nat) (l : List Int) {v : Value} {W W' : World} (hb : Below W.heap.size W W') : ∀ {i : Nat}, msT N b L sb uq us ud lv lc aw cw l i v W → msT N b L sb uq us ud lv lc aw cw l i v W'
  | 0, h => h
  | 1, h => h
  | 2, h => h
  | 3, h => h
  | 4, h => h
  | 5, h => h
  | 6, h => h
  | 7, h => by obtain ⟨g, e, h1⟩ := h; exact ⟨g, e, (hb.cell (World.block_lt_of_cell? _ _ h1)).trans h1⟩
  | 8, h => by obtain ⟨a1, c1, e, h1⟩ := h; exact ⟨a1, c1, e, h1.grown hb⟩
  | 9, h => by obtain ⟨a1, c1, e, h1⟩ := h; exact ⟨a1, c1, e, h1.grown hb⟩
  | 10, h => by obtain ⟨g, a1, c1, e, h0, h1, h2⟩ := h; exact ⟨g, a1, c1, e, h0, h1.below hb, h2.grown hb⟩
  | 11, h => by obtain ⟨g, a1, c1, e, h0, h1, h2⟩ := h; exact ⟨g, a1, c1, e, h0, h1.below hb, h2.grown hb⟩
  | _ + 12, h => h
set_option maxRecDepth 100000 in
set_option maxHeartbeats 1000000 in
theorem ms_ok : okG msOps [8, 9, 10, 11, 12, 13, 14, 15, 16, 17, 18, 7] = true := by kernel_rfl
set_option maxRecDepth 100000 in
set_option maxHeartbeats 8000000 in
theorem ms_core {Q : Exit → Act → World → Prop} (W : World) (N b L : Nat) (sb : Nat) (uq : Option Addr) (us : ByteArray) (ud : Int) (lv : Option Addr) (lc : Nat) (aw : Option Addr) (cw : Nat) (l : List Int) (a0 : Act) (hs0 : a0.tmps.size = 34) (eY0 : a0.eval (.tmp 0) = .pointer (some ⟨b, 0, none⟩)) (eY2 : a0.eval (.tmp 2) = .slice aw l.length cw) (eY4 : a0.eval (.tmp 4) = .pointer (some ⟨sb, 0, none⟩))
    (hs : Bk W sb [.pointer uq, .string us, .int .i64 ud] 89) (h4 : W.cell? ⟨b, 4, none⟩ = some (.slice lv L lc))
    (hN : N = W.heap.size) (hJ : ∀ X g, Below W.heap.size W X → X.cell? ⟨g, 0, none⟩ = some (.slice aw l.length cw) → Calls Try.prog 41 #[.slice (some ⟨g, 0, none⟩) 1 1] X fun e X' => ∃ a1 c1, e = .returned (.slice a1 l.length c1) ∧ OwnL .i64 3 X' X.heap.size (.slice a1 l.length c1) l ∧ Below X.heap.size X X')
    (fin : ∀ a X, EInv a0 W 12 (fun i => [8, 9, 10, 11, 12, 13, 14, 15, 16, 17, 18, 7].getD i 0) (msT N b L sb uq us ud lv lc aw cw l) (fun _ => True) a X → Q .normal a X) :
    (Code.region 1 msOps true).wp Try.prog Q a0 W := by
  refine wp_region_guard (by kernel_rfl) a0 W 12 (fun i => [8, 9, 10, 11, 12, 13, 14, 15, 16, 17, 18, 7].getD i 0) (msT N b L sb uq us ud lv lc aw cw l) rfl (fun _ _ _ _ h hb => msT_below N b L sb uq us ud lv lc aw cw l hb h) (by decide) (fun i hi => by rw [hs0]; exact (show ∀ i, i < 12 → [8, 9, 10, 11, 12, 13, 14, 15, 16, 17, 18, 7].getD i 0 < 34 by decide) i hi) (hdG_of ms_ok) ?_ fin
  intro j o ho a X E haft KK hKK
  have hj : j < 12 := (Array.getElem?_eq_some_iff.1 ho).1
  have hsz : a.tmps.size = 34 := E.sz.trans hs0
  have fY0 : a.eval (.tmp 0) = .pointer (some ⟨b, 0, none⟩) := (E.ag 0 (by decide)).trans eY0
  have fY2 : a.eval (.tmp 2) = .slice aw l.length cw := (E.ag 2 (by decide)).trans eY2
  have fY4 : a.eval (.tmp 4) = .pointer (some ⟨sb, 0, none⟩) := (E.ag 4 (by decide)).trans eY4
  have r := Below.refl X.heap.size X
  have bl := E.bl
  clear E fin
  rcases (by omega : j = 0 ∨ j = 1 ∨ j = 2 ∨ j = 3 ∨ j = 4 ∨ j = 5 ∨ j = 6 ∨ j = 7 ∨ j = 8 ∨ j = 9 ∨ j = 10 ∨ j = 11) with rfl | rfl | rfl | rfl | rfl | rfl | rfl | rfl | rfl | rfl | rfl | rfl
  · obtain rfl : ms0 = o := Option.some.inj ho
    refine wpOp_on ho (wanted_none rfl) ?_
    have q := hs.below bl
    exact wp_valueZ (v := .agg #[.pointer uq, .string us, .int .i64 ud]) (w' := X) (by simp [execOp, ms0, fY4, ldSpA q]) (hKK _ _ r rfl)
  · obtain rfl : ms1 = o := Option.some.inj ho
    refine wpOp_on ho (wanted_none rfl) ?_
    exact wp_valueZ (v := .pointer (some ⟨b, 0, none⟩)) (w' := X) (by simp [execOp, ms1, fY0]) (hKK _ _ r rfl)
  · obtain rfl : ms2 = o := Option.some.inj ho
    refine wpOp_on ho (wanted_none rfl) ?_
    have d0 : a.eval (.tmp 9) = .pointer (some ⟨b, 0, none⟩) := haft ⟨1, .data⟩ (by simp [ms2]) rfl
    exact wp_valueZ (v := .pointer (some ⟨b, 0, none⟩)) (w' := X) (by simp [execOp, ms2, d0]) (hKK _ _ r rfl)
  · obtain rfl : ms3 = o := Option.some.inj ho
    refine wpOp_on ho (wanted_none rfl) ?_
    have d0 : a.eval (.tmp 10) = .pointer (some ⟨b, 0, none⟩) := haft ⟨2, .data⟩ (by simp [ms3]) rfl
    exact wp_valueZ (v := .pointer (some ⟨b, 4, none⟩)) (w' := X) (by simp [execOp, ms3, d0, fldR4]) (hKK _ _ r rfl)
  · obtain rfl : ms4 = o := Option.some.inj ho
    refine wpOp_on ho (wanted_none rfl) ?_
    have d0 : a.eval (.tmp 11) = .pointer (some ⟨b, 4, none⟩) := haft ⟨3, .data⟩ (by simp [ms4]) rfl
    have q := (bl.cell (p := ⟨b, 4, none⟩) (World.block_lt_of_cell? W _ h4)).trans h4
    exact wp_valueZ (v := .slice lv L lc) (w' := X) (by simp [execOp, ms4, d0, ldRl q]) (hKK _ _ r rfl)
  · obtain rfl : ms5 = o := Option.some.inj ho
    refine wpOp_on ho (wanted_none rfl) ?_
    have d0 : a.eval (.tmp 12) = .slice lv L lc := haft ⟨4, .data⟩ (by simp [ms5]) rfl
    exact wp_valueZ (v := .int .i64 (L : Int)) (w' := X) (by simp [execOp, ms5, resolve, invoke, builtin, d0]; go_simp) (hKK _ _ r rfl)
  · obtain rfl : ms6 = o := Option.some.inj ho
    refine wpOp_on ho (wanted_none rfl) ?_
    exact wp_valueZ (v := .slice aw l.length cw) (w' := X) (by simp [execOp, ms6, fY2]) (hKK _ _ r rfl)
  · obtain rfl : ms7 = o := Option.some.inj ho
    refine wpOp_on ho (wanted_none rfl) ?_
    have d6 : a.eval (.tmp 14) = .slice aw l.length cw := haft ⟨6, .data⟩ (by simp [ms7]) rfl
    exact wp_valueZ (v := .slice (some ⟨X.heap.size, 0, none⟩) 1 1) (w' := X.alloc (.cells #[.slice aw l.length cw] 29)) (by simp [execOp, ms7, d6, run_litJ]) (hKK _ _ (ballo _ _) ⟨_, rfl, by simp⟩)
  · obtain rfl : ms8 = o := Option.some.inj ho
    refine wpOp_on ho (wanted_none rfl) ?_
    obtain ⟨g, d0, d1⟩ : ∃ g, a.eval (.tmp 15) = .slice (some ⟨g, 0, none⟩) 1 1 ∧ X.cell? ⟨g, 0, none⟩ = some (.slice aw l.length cw) := haft ⟨7, .data⟩ (by simp [ms8]) rfl
    refine wp_enterZ (run_call1 rfl (enters_of Try.func41 (by kernel_rfl) rfl) d0) (hJ X g bl d1) ?_
    rintro e X' ⟨a1, c1, rfl, ho, hb⟩
    exact ⟨_, rfl, hKK _ _ hb ⟨a1, c1, rfl, ho.mono (by rw [hN]; exact bl.size)⟩⟩
  · obtain rfl : ms9 = o := Option.some.inj ho
    refine wpOp_on ho (wanted_none rfl) ?_
    have d0 : a.eval (.tmp 8) = .agg #[.pointer uq, .string us, .int .i64 ud] := haft ⟨0, .data⟩ (by simp [ms9]) rfl
    have d5 : a.eval (.tmp 13) = .int .i64 (L : Int) := haft ⟨5, .data⟩ (by simp [ms9]) rfl
    obtain ⟨a1, c1, d8, ho⟩ : ∃ a1 c1, a.eval (.tmp 16) = .slice a1 l.length c1 ∧ OwnL .i64 3 X N (.slice a1 l.length c1) l := haft ⟨8, .data⟩ (by simp [ms9]) rfl
    exact wp_valueZ (v := .agg #[.pointer uq, .string us, .int .i64 ud, .int .i64 (L : Int), .slice a1 l.length c1]) (w' := X) (by simp [execOp, ms9, d0, d5, d8, run_bldLf]) (hKK _ _ r ⟨a1, c1, rfl, ho⟩)
  · obtain rfl : ms10 = o := Option.some.inj ho
    refine wpOp_on ho (wanted_none rfl) ?_
    obtain ⟨a1, c1, d9, ho⟩ : ∃ a1 c1, a.eval (.tmp 17) = .agg #[.pointer uq, .string us, .int .i64 ud, .int .i64 (L : Int), .slice a1 l.length c1] ∧ OwnL .i64 3 X N (.slice a1 l.length c1) l := haft ⟨9, .data⟩ (by simp [ms10]) rfl
    exact wp_valueZ (v := .pointer (some ⟨X.heap.size, 0, none⟩)) (w' := X.alloc (.cells #[.pointer uq, .string us, .int .i64 ud, .int .i64 (L : Int), .slice a1 l.length c1] 111)) (by simp [execOp, ms10, d9, run_boxLf]) (hKK _ _ (ballo _ _) ⟨_, a1, c1, rfl, by rw [hN]; exact bl.size, Bk.new X _ _, ho.grown (ballo _ _)⟩)
  · obtain rfl : ms11 = o := Option.some.inj ho
    refine wpOp_on ho (wanted_none rfl) ?_
    obtain ⟨g, a1, c1, d10, d11⟩ : ∃ g a1 c1, a.eval (.tmp 18) = .pointer (some ⟨g, 0, none⟩) ∧ N ≤ g ∧ Bk X g [.pointer uq, .string us, .int .i64 ud, .int .i64 (L : Int), .slice a1 l.length c1] 111 ∧ OwnL .i64 3 X N (.slice a1 l.length c1) l := haft ⟨10, .data⟩ (by simp [ms11]) rfl
    exact wp_valueZ (v := .pointer (some ⟨g, 0, none⟩)) (w' := X) (by simp [execOp, ms11, d10]) (hKK _ _ r ⟨g, a1, c1, rfl, d11⟩)
set_option maxRecDepth 100000 in
set_option maxHeartbeats 8000000 in
theorem ms_region {Q : Exit → Act → World → Prop} (W : World) (N b L : Nat) (sb : Nat) (uq : Option Addr) (us : ByteArray) (ud : Int) (lv : Option Addr) (lc : Nat) (aw : Option Addr) (cw : Nat) (l : List Int) (ds : List Deferred) (t1 t3 t5 t6 t7 t8 t9 t10 t11 t12 t13 t14 t15 t16 t17 t18 t19 t20 t21 t22 t23 t24 t25 t26 t27 t28 t29 t30 t31 t32 t33 : Value)
    (hs : Bk W sb [.pointer uq, .string us, .int .i64 ud] 89) (h4 : W.cell? ⟨b, 4, none⟩ = some (.slice lv L lc))
    (hN : N = W.heap.size) (hJ : ∀ X g, Below W.heap.size W X → X.cell? ⟨g, 0, none⟩ = some (.slice aw l.length cw) → Calls Try.prog 41 #[.slice (some ⟨g, 0, none⟩) 1 1] X fun e X' => ∃ a1 c1, e = .returned (.slice a1 l.length c1) ∧ OwnL .i64 3 X' X.heap.size (.slice a1 l.length c1) l ∧ Below X.heap.size X X')
    (fin : ∀ X (u8 u9 u10 u11 u12 u13 u14 u15 u16 u17 u18 u7 : Value), Below W.heap.size W X → (∃ g a1 c1, u7 = .pointer (some ⟨g, 0, none⟩) ∧ N ≤ g ∧ Bk X g [.pointer uq, .string us, .int .i64 ud, .int .i64 (L : Int), .slice a1 l.length c1] 111 ∧ OwnL .i64 3 X N (.slice a1 l.length c1) l) → Q .normal ⟨#[.pointer (some ⟨b, 0, none⟩), t1, .slice aw l.length cw, t3, .pointer (some ⟨sb, 0, none⟩), t5, t6, u7, u8, u9, u10, u11, u12, u13, u14, u15, u16, u17, u18, t19, t20, t21, t22, t23, t24, t25, t26, t27, t28, t29, t30, t31, t32, t33], ds⟩ X) :
    (Code.region 1 msOps true).wp Try.prog Q ⟨#[.pointer (some ⟨b, 0, none⟩), t1, .slice aw l.length cw, t3, .pointer (some ⟨sb, 0, none⟩), t5, t6, t7, t8, t9, t10, t11, t12, t13, t14, t15, t16, t17, t18, t19, t20, t21, t22, t23, t24, t25, t26, t27, t28, t29, t30, t31, t32, t33], ds⟩ W := by
  obtain ⟨a0, ha0⟩ : ∃ a0 : Act, a0 = ⟨#[.pointer (some ⟨b, 0, none⟩), t1, .slice aw l.length cw, t3, .pointer (some ⟨sb, 0, none⟩), t5, t6, t7, t8, t9, t10, t11, t12, t13, t14, t15, t16, t17, t18, t19, t20, t21, t22, t23, t24, t25, t26, t27, t28, t29, t30, t31, t32, t33], ds⟩ := ⟨_, rfl⟩
  have hs0 : a0.tmps.size = 34 := by rw [ha0]; rfl
  have hd0 : a0.defers = ds := by rw [ha0]
  have gY0 : a0.eval (.tmp 0) = .pointer (some ⟨b, 0, none⟩) := by rw [ha0]; rfl
  have gY1 : a0.eval (.tmp 1) = t1 := by rw [ha0]; rfl
  have gY2 : a0.eval (.tmp 2) = .slice aw l.length cw := by rw [ha0]; rfl
  have gY3 : a0.eval (.tmp 3) = t3 := by rw [ha0]; rfl
  have gY4 : a0.eval (.tmp 4) = .pointer (some ⟨sb, 0, none⟩) := by rw [ha0]; rfl
  have gY5 : a0.eval (.tmp 5) = t5 := by rw [ha0]; rfl
  have gY6 : a0.eval (.tmp 6) = t6 := by rw [ha0]; rfl
  have gY19 : a0.eval (.tmp 19) = t19 := by rw [ha0]; rfl
  have gY20 : a0.eval (.tmp 20) = t20 := by rw [ha0]; rfl
  have gY21 : a0.eval (.tmp 21) = t21 := by rw [ha0]; rfl
  have gY22 : a0.eval (.tmp 22) = t22 := by rw [ha0]; rfl
  have gY23 : a0.eval (.tmp 23) = t23 := by rw [ha0]; rfl
  have gY24 : a0.eval (.tmp 24) = t24 := by rw [ha0]; rfl
  have gY25 : a0.eval (.tmp 25) = t25 := by rw [ha0]; rfl
  have gY26 : a0.eval (.tmp 26) = t26 := by rw [ha0]; rfl
  have gY27 : a0.eval (.tmp 27) = t27 := by rw [ha0]; rfl
  have gY28 : a0.eval (.tmp 28) = t28 := by rw [ha0]; rfl
  have gY29 : a0.eval (.tmp 29) = t29 := by rw [ha0]; rfl
  have gY30 : a0.eval (.tmp 30) = t30 := by rw [ha0]; rfl
  have gY31 : a0.eval (.tmp 31) = t31 := by rw [ha0]; rfl
  have gY32 : a0.eval (.tmp 32) = t32 := by rw [ha0]; rfl
  have gY33 : a0.eval (.tmp 33) = t33 := by rw [ha0]; rfl
  rw [← ha0]
  refine ms_core W N b L sb uq us ud lv lc aw cw l a0 hs0 gY0 gY2 gY4 hs h4 hN hJ ?_
  clear ha0
  intro a X E
  have hq := fin X (a.eval (.tmp 8)) (a.eval (.tmp 9)) (a.eval (.tmp 10)) (a.eval (.tmp 11)) (a.eval (.tmp 12)) (a.eval (.tmp 13)) (a.eval (.tmp 14)) (a.eval (.tmp 15)) (a.eval (.tmp 16)) (a.eval (.tmp 17)) (a.eval (.tmp 18)) (a.eval (.tmp 7)) E.bl (E.vs 11 (by decide) trivial)
  have ea : a = ⟨#[a.eval (.tmp 0), a.eval (.tmp 1), a.eval (.tmp 2), a.eval (.tmp 3), a.eval (.tmp 4), a.eval (.tmp 5), a.eval (.tmp 6), a.eval (.tmp 7), a.eval (.tmp 8), a.eval (.tmp 9), a.eval (.tmp 10), a.eval (.tmp 11), a.eval (.tmp 12), a.eval (.tmp 13), a.eval (.tmp 14), a.eval (.tmp 15), a.eval (.tmp 16), a.eval (.tmp 17), a.eval (.tmp 18), a.eval (.tmp 19), a.eval (.tmp 20), a.eval (.tmp 21), a.eval (.tmp 22), a.eval (.tmp 23), a.eval (.tmp 24), a.eval (.tmp 25), a.eval (.tmp 26), a.eval (.tmp 27), a.eval (.tmp 28), a.eval (.tmp 29), a.eval (.tmp 30), a.eval (.tmp 31), a.eval (.tmp 32), a.eval (.tmp 33)], a.defers⟩ := act_eta a 34 (E.sz.trans hs0)
  rw [ea, E.df, hd0]
  have kY0 : a.eval (.tmp 0) = .pointer (some ⟨b, 0, none⟩) := (E.ag 0 (by decide)).trans gY0
  have kY1 : a.eval (.tmp 1) = t1 := (E.ag 1 (by decide)).trans gY1
  have kY2 : a.eval (.tmp 2) = .slice aw l.length cw := (E.ag 2 (by decide)).trans gY2
  have kY3 : a.eval (.tmp 3) = t3 := (E.ag 3 (by decide)).trans gY3
  have kY4 : a.eval (.tmp 4) = .pointer (some ⟨sb, 0, none⟩) := (E.ag 4 (by decide)).trans gY4
  have kY5 : a.eval (.tmp 5) = t5 := (E.ag 5 (by decide)).trans gY5
  have kY6 : a.eval (.tmp 6) = t6 := (E.ag 6 (by decide)).trans gY6
  have kY19 : a.eval (.tmp 19) = t19 := (E.ag 19 (by decide)).trans gY19
  have kY20 : a.eval (.tmp 20) = t20 := (E.ag 20 (by decide)).trans gY20
  have kY21 : a.eval (.tmp 21) = t21 := (E.ag 21 (by decide)).trans gY21
  have kY22 : a.eval (.tmp 22) = t22 := (E.ag 22 (by decide)).trans gY22
  have kY23 : a.eval (.tmp 23) = t23 := (E.ag 23 (by decide)).trans gY23
  have kY24 : a.eval (.tmp 24) = t24 := (E.ag 24 (by decide)).trans gY24
  have kY25 : a.eval (.tmp 25) = t25 := (E.ag 25 (by decide)).trans gY25
  have kY26 : a.eval (.tmp 26) = t26 := (E.ag 26 (by decide)).trans gY26
  have kY27 : a.eval (.tmp 27) = t27 := (E.ag 27 (by decide)).trans gY27
  have kY28 : a.eval (.tmp 28) = t28 := (E.ag 28 (by decide)).trans gY28
  have kY29 : a.eval (.tmp 29) = t29 := (E.ag 29 (by decide)).trans gY29
  have kY30 : a.eval (.tmp 30) = t30 := (E.ag 30 (by decide)).trans gY30
  have kY31 : a.eval (.tmp 31) = t31 := (E.ag 31 (by decide)).trans gY31
  have kY32 : a.eval (.tmp 32) = t32 := (E.ag 32 (by decide)).trans gY32
  have kY33 : a.eval (.tmp 33) = t33 := (E.ag 33 (by decide)).trans gY33
  rw [kY0, kY1, kY2, kY3, kY4, kY5, kY6, kY19, kY20, kY21, kY22, kY23, kY24, kY25, kY26, kY27, kY28, kY29, kY30, kY31, kY32, kY33]
  exact hq
def mn0 : Oper := { dst := some 8, op := Op.load 89 (Operand.tmp 4), type := 89, pos := "node.go:63", after := #[], guard := none }
def mn1 : Oper := { dst := some 9, op := Op.move (Operand.tmp 2), type := 29, pos := "node.go:63", after := #[], guard := none }
def mn2 : Oper := { dst := some 10, op := Op.buildSlice 32 1 #[(0, Operand.tmp 9)], type := 32, pos := "node.go:63", after := #[{ on := 1, ground := Ground.data }], guard := none }
def mn3 : Oper := { dst := some 11, op := Op.call { callee := Callee.value (Operand.func 41), args := #[Operand.tmp 10], argTypes := #[32] }, type := 29, pos := "node.go:63", after := #[{ on := 2, ground := Ground.data }], guard := none }
def mn4 : Oper := { dst := some 12, op := Op.makeMap 96 none, type := 96, pos := "node.go:63", after := #[], guard := none }
def mn5 : Oper := { dst := some 13, op := Op.build 98 #[(0, Operand.tmp 8), (1, Operand.tmp 11), (2, Operand.tmp 12)], type := 98, pos := "node.go:63", after := #[{ on := 0, ground := Ground.data }, { on := 3, ground := Ground.data }, { on := 4, ground := Ground.data }], guard := none }
def mn6 : Oper := { dst := some 14, op := Op.box 98 (Operand.tmp 13), type := 86, pos := "node.go:63", after := #[{ on := 5, ground := Ground.data }], guard := none }
def mn7 : Oper := { dst := some 7, op := Op.assign (Operand.tmp 14), type := 86, pos := "node.go:63", after := #[{ on := 6, ground := Ground.data }, { on := 3, ground := Ground.chain }, { on := 0, ground := Ground.phase }, { on := 1, ground := Ground.phase }, { on := 2, ground := Ground.phase }, { on := 3, ground := Ground.phase }, { on := 4, ground := Ground.phase }, { on := 5, ground := Ground.phase }, { on := 6, ground := Ground.phase }], guard := none }
def mnOps : Array Oper := #[mn0, mn1, mn2, mn3, mn4, mn5, mn6, mn7]

def mnT (N : Nat) (sb : Nat) (uq : Option Addr) (us : ByteArray) (ud : Int) (aw : Option Addr) (cw : Nat) (l : List Int) : Nat → Value → World → Prop
  | 0, v, _ => v = .agg #[.pointer uq, .string us, .int .i64 ud]
  | 1, v, _ => v = .slice aw l.length cw
  | 2, v, W => ∃ g, v = .slice (some ⟨g, 0, none⟩) 1 1 ∧ W.cell? ⟨g, 0, none⟩ = some (.slice aw l.length cw)
  | 3, v, W => ∃ a1 c1, v = .slice a1 l.length c1 ∧ OwnL .i64 3 W N (.slice a1 l.length c1) l
  | 4, v, W => ∃ mb, v = .map (some mb) ∧ N ≤ mb ∧ W.heap[mb]? = some (.map #[] 0)
  | 5, v, W => ∃ a1 c1 mb, v = .agg #[.pointer uq, .string us, .int .i64 ud, .slice a1 l.length c1, .map (some mb)] ∧ N ≤ mb ∧ W.heap[mb]? = some (.map #[] 0) ∧ OwnL .i64 3 W N (.slice a1 l.length c1) l
  | 6, v, W => ∃ g a1 c1 mb, v = .pointer (some ⟨g, 0, none⟩) ∧ N ≤ g ∧ Bk W g [.pointer uq, .string us, .int .i64 ud, .slice a1 l.length c1, .map (some mb)] 98 ∧ N ≤ mb ∧ W.heap[mb]? = some (.map #[] 0) ∧ OwnL .i64 3 W N (.slice a1 l.length c1) l
  | 7, v, W => ∃ g a1 c1 mb, v = .pointer (some ⟨g, 0, none⟩) ∧ N ≤ g ∧ Bk W g [.pointer uq, .string us, .int .i64 ud, .slice a1 l.length c1, .map (some mb)] 98 ∧ N ≤ mb ∧ W.heap[mb]? = some (.map #[] 0) ∧ OwnL .i64 3 W N (.slice a1 l.length c1) l
  | _, _, _ => True
theorem mnT_below (N : Nat) (sb : Nat) (uq : Option Addr) (us : ByteArray) (ud : Int) (aw : Option Addr) (cw : Nat) (l : List Int) {v : Value} {W W' : World} (hb : Below W.heap.size W W') : ∀ {i : Nat}, mnT N sb uq us ud aw cw l i v W → mnT N sb uq us ud aw cw l i v W'
  | 0, h => h
  | 1, h => h
  | 2, h => by obtain ⟨g, e, h1⟩ := h; exact ⟨g, e, (hb.cell (World.block_lt_of_cell? _ _ h1)).trans h1⟩
  | 3, h => by obtain ⟨a1, c1, e, h1⟩ := h; exact ⟨a1, c1, e, h1.grown hb⟩
  | 4, h => by obtain ⟨mb, e, h1, h2⟩ := h; exact ⟨mb, e, h1, (hb.block mb (Array.getElem?_eq_some_iff.1 h2).1).trans h2⟩
  | 5, h => by obtain ⟨a1, c1, mb, e, h1, h2, h3⟩ := h; exact ⟨a1, c1, mb, e, h1, (hb.block mb (Array.getElem?_eq_some_iff.1 h2).1).trans h2, h3.grown hb⟩
  | 6, h => by obtain ⟨g, a1, c1, mb, e, h0, h4, h1, h2, h3⟩ := h; exact ⟨g, a1, c1, mb, e, h0, h4.below hb, h1, (hb.block mb (Array.getElem?_eq_some_iff.1 h2).1).trans h2, h3.grown hb⟩
  | 7, h => by obtain ⟨g, a1, c1, mb, e, h0, h4, h1, h2, h3⟩ := h; exact ⟨g, a1, c1, mb, e, h0, h4.below hb, h1, (hb.block mb (Array.getElem?_eq_some_iff.1 h2).1).trans h2, h3.grown hb⟩
  | _ + 8, h => h
set_option maxRecDepth 100000 in
set_option maxHeartbeats 1000000 in
theorem mn_ok : okG mnOps [8, 9, 10, 11, 12, 13, 14, 7] = true := by kernel_rfl
set_option maxRecDepth 100000 in
set_option maxHeartbeats 8000000 in
theorem mn_core {Q : Exit → Act → World → Prop} (W : World) (N : Nat) (sb : Nat) (uq : Option Addr) (us : ByteArray) (ud : Int) (aw : Option Addr) (cw : Nat) (l : List Int) (a0 : Act) (hs0 : a0.tmps.size = 20) (eY2 : a0.eval (.tmp 2) = .slice aw l.length cw) (eY4 : a0.eval (.tmp 4) = .pointer (some ⟨sb, 0, none⟩))
    (hs : Bk W sb [.pointer uq, .string us, .int .i64 ud] 89)
    (hN : N = W.heap.size) (hJ : ∀ X g, Below W.heap.size W X → X.cell? ⟨g, 0, none⟩ = some (.slice aw l.length cw) → Calls Try.prog 41 #[.slice (some ⟨g, 0, none⟩) 1 1] X fun e X' => ∃ a1 c1, e = .returned (.slice a1 l.length c1) ∧ OwnL .i64 3 X' X.heap.size (.slice a1 l.length c1) l ∧ Below X.heap.size X X')
    (fin : ∀ a X, EInv a0 W 8 (fun i => [8, 9, 10, 11, 12, 13, 14, 7].getD i 0) (mnT N sb uq us ud aw cw l) (fun _ => True) a X → Q .normal a X) :
    (Code.region 1 mnOps true).wp Try.prog Q a0 W := by
  refine wp_region_guard (by kernel_rfl) a0 W 8 (fun i => [8, 9, 10, 11, 12, 13, 14, 7].getD i 0) (mnT N sb uq us ud aw cw l) rfl (fun _ _ _ _ h hb => mnT_below N sb uq us ud aw cw l hb h) (by decide) (fun i hi => by rw [hs0]; exact (show ∀ i, i < 8 → [8, 9, 10, 11, 12, 13, 14, 7].getD i 0 < 20 by decide) i hi) (hdG_of mn_ok) ?_ fin
  intro j o ho a X E haft KK hKK
  have hj : j < 8 := (Array.getElem?_eq_some_iff.1 ho).1
  have hsz : a.tmps.size = 20 := E.sz.trans hs0
  have fY2 : a.eval (.tmp 2) = .slice aw l.length cw := (E.ag 2 (by decide)).trans eY2
  have fY4 : a.eval (.tmp 4) = .pointer (some ⟨sb, 0, none⟩) := (E.ag 4 (by decide)).trans eY4
  have r := Below.refl X.heap.size X
  have bl := E.bl
  clear E fin
  rcases (by omega : j = 0 ∨ j = 1 ∨ j = 2 ∨ j = 3 ∨ j = 4 ∨ j = 5 ∨ j = 6 ∨ j = 7) with rfl | rfl | rfl | rfl | rfl | rfl | rfl | rfl
  · obtain rfl : mn0 = o := Option.some.inj ho
    refine wpOp_on ho (wanted_none rfl) ?_
    have q := hs.below bl
    exact wp_valueZ (v := .agg #[.pointer uq, .string us, .int .i64 ud]) (w' := X) (by simp [execOp, mn0, fY4, ldSpA q]) (hKK _ _ r rfl)
  · obtain rfl : mn1 = o := Option.some.inj ho
    refine wpOp_on ho (wanted_none rfl) ?_
    exact wp_valueZ (v := .slice aw l.length cw) (w' := X) (by simp [execOp, mn1, fY2]) (hKK _ _ r rfl)
  · obtain rfl : mn2 = o := Option.some.inj ho
    refine wpOp_on ho (wanted_none rfl) ?_
    have d1 : a.eval (.tmp 9) = .slice aw l.length cw := haft ⟨1, .data⟩ (by simp [mn2]) rfl
    exact wp_valueZ (v := .slice (some ⟨X.heap.size, 0, none⟩) 1 1) (w' := X.alloc (.cells #[.slice aw l.length cw] 29)) (by simp [execOp, mn2, d1, run_litJ]) (hKK _ _ (ballo _ _) ⟨_, rfl, by simp⟩)
  · obtain rfl : mn3 = o := Option.some.inj ho
    refine wpOp_on ho (wanted_none rfl) ?_
    obtain ⟨g, d0, d1⟩ : ∃ g, a.eval (.tmp 10) = .slice (some ⟨g, 0, none⟩) 1 1 ∧ X.cell? ⟨g, 0, none⟩ = some (.slice aw l.length cw) := haft ⟨2, .data⟩ (by simp [mn3]) rfl
    refine wp_enterZ (run_call1 rfl (enters_of Try.func41 (by kernel_rfl) rfl) d0) (hJ X g bl d1) ?_
    rintro e X' ⟨a1, c1, rfl, ho, hb⟩
    exact ⟨_, rfl, hKK _ _ hb ⟨a1, c1, rfl, ho.mono (by rw [hN]; exact bl.size)⟩⟩
  · obtain rfl : mn4 = o := Option.some.inj ho
    refine wpOp_on ho (wanted_none rfl) ?_
    exact wp_valueZ (v := .map (some X.heap.size)) (w' := X.alloc (.map #[] 0)) (by simp [execOp, mn4, run_makeMap]) (hKK _ _ (ballo _ _) ⟨_, rfl, by rw [hN]; exact bl.size, heap_alloc_new _ _⟩)
  · obtain rfl : mn5 = o := Option.some.inj ho
    refine wpOp_on ho (wanted_none rfl) ?_
    have d0 : a.eval (.tmp 8) = .agg #[.pointer uq, .string us, .int .i64 ud] := haft ⟨0, .data⟩ (by simp [mn5]) rfl
    obtain ⟨a1, c1, d3, ho⟩ : ∃ a1 c1, a.eval (.tmp 11) = .slice a1 l.length c1 ∧ OwnL .i64 3 X N (.slice a1 l.length c1) l := haft ⟨3, .data⟩ (by simp [mn5]) rfl
    obtain ⟨mb, d4, h1, h2⟩ : ∃ mb, a.eval (.tmp 12) = .map (some mb) ∧ N ≤ mb ∧ X.heap[mb]? = some (.map #[] 0) := haft ⟨4, .data⟩ (by simp [mn5]) rfl
    exact wp_valueZ (v := .agg #[.pointer uq, .string us, .int .i64 ud, .slice a1 l.length c1, .map (some mb)]) (w' := X) (by simp [execOp, mn5, d0, d3, d4, run_bldIn]) (hKK _ _ r ⟨a1, c1, mb, rfl, h1, h2, ho⟩)
  · obtain rfl : mn6 = o := Option.some.inj ho
    refine wpOp_on ho (wanted_none rfl) ?_
    obtain ⟨a1, c1, mb, d5, h1, h2, ho⟩ : ∃ a1 c1 mb, a.eval (.tmp 13) = .agg #[.pointer uq, .string us, .int .i64 ud, .slice a1 l.length c1, .map (some mb)] ∧ N ≤ mb ∧ X.heap[mb]? = some (.map #[] 0) ∧ OwnL .i64 3 X N (.slice a1 l.length c1) l := haft ⟨5, .data⟩ (by simp [mn6]) rfl
    have hb := ballo X (.cells #[.pointer uq, .string us, .int .i64 ud, .slice a1 l.length c1, .map (some mb)] 98)
    exact wp_valueZ (v := .pointer (some ⟨X.heap.size, 0, none⟩)) (w' := X.alloc (.cells #[.pointer uq, .string us, .int .i64 ud, .slice a1 l.length c1, .map (some mb)] 98)) (by simp [execOp, mn6, d5, run_boxIn]) (hKK _ _ hb ⟨_, a1, c1, mb, rfl, by rw [hN]; exact bl.size, Bk.new X _ _, h1, (hb.block mb (Array.getElem?_eq_some_iff.1 h2).1).trans h2, ho.grown hb⟩)
  · obtain rfl : mn7 = o := Option.some.inj ho
    refine wpOp_on ho (wanted_none rfl) ?_
    obtain ⟨g, a1, c1, mb, d6, d7⟩ : ∃ g a1 c1 mb, a.eval (.tmp 14) = .pointer (some ⟨g, 0, none⟩) ∧ N ≤ g ∧ Bk X g [.pointer uq, .string us, .int .i64 ud, .slice a1 l.length c1, .map (some mb)] 98 ∧ N ≤ mb ∧ X.heap[mb]? = some (.map #[] 0) ∧ OwnL .i64 3 X N (.slice a1 l.length c1) l := haft ⟨6, .data⟩ (by simp [mn7]) rfl
    exact wp_valueZ (v := .pointer (some ⟨g, 0, none⟩)) (w' := X) (by simp [execOp, mn7, d6]) (hKK _ _ r ⟨g, a1, c1, mb, rfl, d7⟩)
set_option maxRecDepth 100000 in
set_option maxHeartbeats 8000000 in
theorem mn_region {Q : Exit → Act → World → Prop} (W : World) (N : Nat) (sb : Nat) (uq : Option Addr) (us : ByteArray) (ud : Int) (aw : Option Addr) (cw : Nat) (l : List Int) (ds : List Deferred) (t0 t1 t3 t5 t6 t7 t8 t9 t10 t11 t12 t13 t14 t15 t16 t17 t18 t19 : Value)
    (hs : Bk W sb [.pointer uq, .string us, .int .i64 ud] 89)
    (hN : N = W.heap.size) (hJ : ∀ X g, Below W.heap.size W X → X.cell? ⟨g, 0, none⟩ = some (.slice aw l.length cw) → Calls Try.prog 41 #[.slice (some ⟨g, 0, none⟩) 1 1] X fun e X' => ∃ a1 c1, e = .returned (.slice a1 l.length c1) ∧ OwnL .i64 3 X' X.heap.size (.slice a1 l.length c1) l ∧ Below X.heap.size X X')
    (fin : ∀ X (u8 u9 u10 u11 u12 u13 u14 u7 : Value), Below W.heap.size W X → (∃ g a1 c1 mb, u7 = .pointer (some ⟨g, 0, none⟩) ∧ N ≤ g ∧ Bk X g [.pointer uq, .string us, .int .i64 ud, .slice a1 l.length c1, .map (some mb)] 98 ∧ N ≤ mb ∧ X.heap[mb]? = some (.map #[] 0) ∧ OwnL .i64 3 X N (.slice a1 l.length c1) l) → Q .normal ⟨#[t0, t1, .slice aw l.length cw, t3, .pointer (some ⟨sb, 0, none⟩), t5, t6, u7, u8, u9, u10, u11, u12, u13, u14, t15, t16, t17, t18, t19], ds⟩ X) :
    (Code.region 1 mnOps true).wp Try.prog Q ⟨#[t0, t1, .slice aw l.length cw, t3, .pointer (some ⟨sb, 0, none⟩), t5, t6, t7, t8, t9, t10, t11, t12, t13, t14, t15, t16, t17, t18, t19], ds⟩ W := by
  obtain ⟨a0, ha0⟩ : ∃ a0 : Act, a0 = ⟨#[t0, t1, .slice aw l.length cw, t3, .pointer (some ⟨sb, 0, none⟩), t5, t6, t7, t8, t9, t10, t11, t12, t13, t14, t15, t16, t17, t18, t19], ds⟩ := ⟨_, rfl⟩
  have hs0 : a0.tmps.size = 20 := by rw [ha0]; rfl
  have hd0 : a0.defers = ds := by rw [ha0]
  have gY0 : a0.eval (.tmp 0) = t0 := by rw [ha0]; rfl
  have gY1 : a0.eval (.tmp 1) = t1 := by rw [ha0]; rfl
  have gY2 : a0.eval (.tmp 2) = .slice aw l.length cw := by rw [ha0]; rfl
  have gY3 : a0.eval (.tmp 3) = t3 := by rw [ha0]; rfl
  have gY4 : a0.eval (.tmp 4) = .pointer (some ⟨sb, 0, none⟩) := by rw [ha0]; rfl
  have gY5 : a0.eval (.tmp 5) = t5 := by rw [ha0]; rfl
  have gY6 : a0.eval (.tmp 6) = t6 := by rw [ha0]; rfl
  have gY15 : a0.eval (.tmp 15) = t15 := by rw [ha0]; rfl
  have gY16 : a0.eval (.tmp 16) = t16 := by rw [ha0]; rfl
  have gY17 : a0.eval (.tmp 17) = t17 := by rw [ha0]; rfl
  have gY18 : a0.eval (.tmp 18) = t18 := by rw [ha0]; rfl
  have gY19 : a0.eval (.tmp 19) = t19 := by rw [ha0]; rfl
  rw [← ha0]
  refine mn_core W N sb uq us ud aw cw l a0 hs0 gY2 gY4 hs hN hJ ?_
  clear ha0
  intro a X E
  have hq := fin X (a.eval (.tmp 8)) (a.eval (.tmp 9)) (a.eval (.tmp 10)) (a.eval (.tmp 11)) (a.eval (.tmp 12)) (a.eval (.tmp 13)) (a.eval (.tmp 14)) (a.eval (.tmp 7)) E.bl (E.vs 7 (by decide) trivial)
  have ea : a = ⟨#[a.eval (.tmp 0), a.eval (.tmp 1), a.eval (.tmp 2), a.eval (.tmp 3), a.eval (.tmp 4), a.eval (.tmp 5), a.eval (.tmp 6), a.eval (.tmp 7), a.eval (.tmp 8), a.eval (.tmp 9), a.eval (.tmp 10), a.eval (.tmp 11), a.eval (.tmp 12), a.eval (.tmp 13), a.eval (.tmp 14), a.eval (.tmp 15), a.eval (.tmp 16), a.eval (.tmp 17), a.eval (.tmp 18), a.eval (.tmp 19)], a.defers⟩ := act_eta a 20 (E.sz.trans hs0)
  rw [ea, E.df, hd0]
  have kY0 : a.eval (.tmp 0) = t0 := (E.ag 0 (by decide)).trans gY0
  have kY1 : a.eval (.tmp 1) = t1 := (E.ag 1 (by decide)).trans gY1
  have kY2 : a.eval (.tmp 2) = .slice aw l.length cw := (E.ag 2 (by decide)).trans gY2
  have kY3 : a.eval (.tmp 3) = t3 := (E.ag 3 (by decide)).trans gY3
  have kY4 : a.eval (.tmp 4) = .pointer (some ⟨sb, 0, none⟩) := (E.ag 4 (by decide)).trans gY4
  have kY5 : a.eval (.tmp 5) = t5 := (E.ag 5 (by decide)).trans gY5
  have kY6 : a.eval (.tmp 6) = t6 := (E.ag 6 (by decide)).trans gY6
  have kY15 : a.eval (.tmp 15) = t15 := (E.ag 15 (by decide)).trans gY15
  have kY16 : a.eval (.tmp 16) = t16 := (E.ag 16 (by decide)).trans gY16
  have kY17 : a.eval (.tmp 17) = t17 := (E.ag 17 (by decide)).trans gY17
  have kY18 : a.eval (.tmp 18) = t18 := (E.ag 18 (by decide)).trans gY18
  have kY19 : a.eval (.tmp 19) = t19 := (E.ag 19 (by decide)).trans gY19
  rw [kY0, kY1, kY2, kY3, kY4, kY5, kY6, kY15, kY16, kY17, kY18, kY19]
  exact hq
def ak0 : Oper := { dst := some 15, op := Op.move (Operand.tmp 0), type := 25, pos := "tree.go:60", after := #[], guard := none }
def ak1 : Oper := { dst := some 16, op := Op.nilCheck (Operand.tmp 15), type := 0, pos := "tree.go:60", after := #[{ on := 0, ground := Ground.data }], guard := none }
def ak2 : Oper := { dst := some 17, op := Op.fieldAddr 83 (Operand.tmp 16) 6, type := 0, pos := "tree.go:60", after := #[{ on := 1, ground := Ground.data }], guard := none }
def ak3 : Oper := { dst := some 18, op := Op.load 29 (Operand.tmp 17), type := 29, pos := "tree.go:60", after := #[{ on := 2, ground := Ground.data }], guard := none }
def ak4 : Oper := { dst := some 19, op := Op.move (Operand.tmp 4), type := 86, pos := "tree.go:60", after := #[], guard := none }
def ak5 : Oper := { dst := some 20, op := Op.nilCheck (Operand.tmp 19), type := 0, pos := "tree.go:60", after := #[{ on := 4, ground := Ground.data }], guard := none }
def ak6 : Oper := { dst := some 21, op := Op.fieldAddr 98 (Operand.tmp 20) 1, type := 0, pos := "tree.go:60", after := #[{ on := 5, ground := Ground.data }], guard := none }
def ak7 : Oper := { dst := some 22, op := Op.load 29 (Operand.tmp 21), type := 29, pos := "tree.go:60", after := #[{ on := 6, ground := Ground.data }], guard := none }
def ak8 : Oper := { dst := some 23, op := Op.buildSlice 32 2 #[(0, Operand.tmp 18), (1, Operand.tmp 22)], type := 32, pos := "tree.go:60", after := #[{ on := 3, ground := Ground.data }, { on := 7, ground := Ground.data }], guard := none }
def ak9 : Oper := { dst := some 24, op := Op.call { callee := Callee.value (Operand.func 41), args := #[Operand.tmp 23], argTypes := #[32] }, type := 29, pos := "tree.go:60", after := #[{ on := 8, ground := Ground.data }], guard := none }
def ak10 : Oper := { dst := some 2, op := Op.assign (Operand.tmp 24), type := 29, pos := "tree.go:60", after := #[{ on := 9, ground := Ground.data }, { on := 9, ground := Ground.chain }, { on := 0, ground := Ground.phase }, { on := 1, ground := Ground.phase }, { on := 2, ground := Ground.phase }, { on := 3, ground := Ground.phase }, { on := 4, ground := Ground.phase }, { on := 5, ground := Ground.phase }, { on := 6, ground := Ground.phase }, { on := 7, ground := Ground.phase }, { on := 8, ground := Ground.phase }, { on := 9, ground := Ground.phase }], guard := none }
def ak11 : Oper := { dst := some 3, op := Op.assign (Operand.const (Value.bool true)), type := 4, pos := "tree.go:60", after := #[{ on := 10, ground := Ground.chain }, { on := 0, ground := Ground.phase }, { on := 1, ground := Ground.phase }, { on := 2, ground := Ground.phase }, { on := 3, ground := Ground.phase }, { on := 4, ground := Ground.phase }, { on := 5, ground := Ground.phase }, { on := 6, ground := Ground.phase }, { on := 7, ground := Ground.phase }, { on := 8, ground := Ground.phase }, { on := 9, ground := Ground.phase }, { on := 10, ground := Ground.phase }], guard := none }
def akOps : Array Oper := #[ak0, ak1, ak2, ak3, ak4, ak5, ak6, ak7, ak8, ak9, ak10, ak11]

def akT (N b q : Nat) (aw : Option Addr) (nw cw : Nat) (a2 : Option Addr) (n2 c2 : Nat) (l : List Int) : Nat → Value → World → Prop
  | 0, v, _ => v = .pointer (some ⟨b, 0, none⟩)
  | 1, v, _ => v = .pointer (some ⟨b, 0, none⟩)
  | 2, v, _ => v = .pointer (some ⟨b, 6, none⟩)
  | 3, v, _ => v = .slice aw nw cw
  | 4, v, _ => v = .pointer (some ⟨q, 0, none⟩)
  | 5, v, _ => v = .pointer (some ⟨q, 0, none⟩)
  | 6, v, _ => v = .pointer (some ⟨q, 3, none⟩)
  | 7, v, _ => v = .slice a2 n2 c2
  | 8, v, W => ∃ g, v = .slice (some ⟨g, 0, none⟩) 2 2 ∧ W.cell? ⟨g, 0, none⟩ = some (.slice aw nw cw) ∧ W.cell? ⟨g, 1, none⟩ = some (.slice a2 n2 c2)
  | 9, v, W => ∃ a1 c1, v = .slice a1 l.length c1 ∧ OwnL .i64 3 W N (.slice a1 l.length c1) l
  | 10, v, W => ∃ a1 c1, v = .slice a1 l.length c1 ∧ OwnL .i64 3 W N (.slice a1 l.length c1) l
  | 11, v, _ => v = .bool true
  | _, _, _ => True
theorem akT_below (N b q : Nat) (aw : Option Addr) (nw cw : Nat) (a2 : Option Addr) (n2 c2 : Nat) (l : List Int) {v : Value} {W W' : World} (hb : Below W.heap.size W W') : ∀ {i : Nat}, akT N b q aw nw cw a2 n2 c2 l i v W → akT N b q aw nw cw a2 n2 c2 l i v W'
  | 0, h => h
  | 1, h => h
  | 2, h => h
  | 3, h => h
  | 4, h => h
  | 5, h => h
  | 6, h => h
  | 7, h => h
  | 8, h => by obtain ⟨g, e, h1, h2⟩ := h; exact ⟨g, e, (hb.cell (World.block_lt_of_cell? _ _ h1)).trans h1, (hb.cell (World.block_lt_of_cell? _ _ h2)).trans h2⟩
  | 9, h => by obtain ⟨a1, c1, e, h1⟩ := h; exact ⟨a1, c1, e, h1.grown hb⟩
  | 10, h => by obtain ⟨a1, c1, e, h1⟩ := h; exact ⟨a1, c1, e, h1.grown hb⟩
  | 11, h => h
  | _ + 12, h => h
set_option maxRecDepth 100000 in
set_option maxHeartbeats 1000000 in
theorem ak_ok : okG akOps [15, 16, 17, 18, 19, 20, 21, 22, 23, 24, 2, 3] = true := by kernel_rfl
set_option maxRecDepth 100000 in
set_option maxHeartbeats 8000000 in
theorem ak_core {Q : Exit → Act → World → Prop} (W : World) (N b q : Nat) (aw : Option Addr) (nw cw : Nat) (a2 : Option Addr) (n2 c2 : Nat) (l : List Int) (a0 : Act) (hs0 : a0.tmps.size = 25) (eY0 : a0.eval (.tmp 0) = .pointer (some ⟨b, 0, none⟩)) (eY4 : a0.eval (.tmp 4) = .pointer (some ⟨q, 0, none⟩))
    (h6 : W.cell? ⟨b, 6, none⟩ = some (.slice aw nw cw)) (h3 : W.cell? ⟨q, 3, none⟩ = some (.slice a2 n2 c2)) (hN : N = W.heap.size)
    (hJ : ∀ X g, Below W.heap.size W X → X.cell? ⟨g, 0, none⟩ = some (.slice aw nw cw) → X.cell? ⟨g, 1, none⟩ = some (.slice a2 n2 c2) → Calls Try.prog 41 #[.slice (some ⟨g, 0, none⟩) 2 2] X fun e X' => ∃ a1 c1, e = .returned (.slice a1 l.length c1) ∧ OwnL .i64 3 X' X.heap.size (.slice a1 l.length c1) l ∧ Below X.heap.size X X')
    (fin : ∀ a X, EInv a0 W 12 (fun i => [15, 16, 17, 18, 19, 20, 21, 22, 23, 24, 2, 3].getD i 0) (akT N b q aw nw cw a2 n2 c2 l) (fun _ => True) a X → Q .normal a X) :
    (Code.region 6 akOps true).wp Try.prog Q a0 W := by
  refine wp_region_guard (by kernel_rfl) a0 W 12 (fun i => [15, 16, 17, 18, 19, 20, 21, 22, 23, 24, 2, 3].getD i 0) (akT N b q aw nw cw a2 n2 c2 l) rfl (fun _ _ _ _ h hb => akT_below N b q aw nw cw a2 n2 c2 l hb h) (by decide) (fun i hi => by rw [hs0]; exact (show ∀ i, i < 12 → [15, 16, 17, 18, 19, 20, 21, 22, 23, 24, 2, 3].getD i 0 < 25 by decide) i hi) (hdG_of ak_ok) ?_ fin
  intro j o ho a X E haft KK hKK
  have hj : j < 12 := (Array.getElem?_eq_some_iff.1 ho).1
  have hsz : a.tmps.size = 25 := E.sz.trans hs0
  have fY0 : a.eval (.tmp 0) = .pointer (some ⟨b, 0, none⟩) := (E.ag 0 (by decide)).trans eY0
  have fY4 : a.eval (.tmp 4) = .pointer (some ⟨q, 0, none⟩) := (E.ag 4 (by decide)).trans eY4
  have r := Below.refl X.heap.size X
  have bl := E.bl
  clear E fin
  rcases (by omega : j = 0 ∨ j = 1 ∨ j = 2 ∨ j = 3 ∨ j = 4 ∨ j = 5 ∨ j = 6 ∨ j = 7 ∨ j = 8 ∨ j = 9 ∨ j = 10 ∨ j = 11) with rfl | rfl | rfl | rfl | rfl | rfl | rfl | rfl | rfl | rfl | rfl | rfl
  · obtain rfl : ak0 = o := Option.some.inj ho
    refine wpOp_on ho (wanted_none rfl) ?_
    exact wp_valueZ (v := .pointer (some ⟨b, 0, none⟩)) (w' := X) (by simp [execOp, ak0, fY0]) (hKK _ _ r rfl)
  · obtain rfl : ak1 = o := Option.some.inj ho
    refine wpOp_on ho (wanted_none rfl) ?_
    have d0 : a.eval (.tmp 15) = .pointer (some ⟨b, 0, none⟩) := haft ⟨0, .data⟩ (by simp [ak1]) rfl
    exact wp_valueZ (v := .pointer (some ⟨b, 0, none⟩)) (w' := X) (by simp [execOp, ak1, d0]) (hKK _ _ r rfl)
  · obtain rfl : ak2 = o := Option.some.inj ho
    refine wpOp_on ho (wanted_none rfl) ?_
    have d0 : a.eval (.tmp 16) = .pointer (some ⟨b, 0, none⟩) := haft ⟨1, .data⟩ (by simp [ak2]) rfl
    exact wp_valueZ (v := .pointer (some ⟨b, 6, none⟩)) (w' := X) (by simp [execOp, ak2, d0, fldR6]) (hKK _ _ r rfl)
  · obtain rfl : ak3 = o := Option.some.inj ho
    refine wpOp_on ho (wanted_none rfl) ?_
    have d0 : a.eval (.tmp 17) = .pointer (some ⟨b, 6, none⟩) := haft ⟨2, .data⟩ (by simp [ak3]) rfl
    have q := (bl.cell (p := ⟨b, 6, none⟩) (World.block_lt_of_cell? W _ h6)).trans h6
    exact wp_valueZ (v := .slice aw nw cw) (w' := X) (by simp [execOp, ak3, d0, ldRi q]) (hKK _ _ r rfl)
  · obtain rfl : ak4 = o := Option.some.inj ho
    refine wpOp_on ho (wanted_none rfl) ?_
    exact wp_valueZ (v := .pointer (some ⟨q, 0, none⟩)) (w' := X) (by simp [execOp, ak4, fY4]) (hKK _ _ r rfl)
  · obtain rfl : ak5 = o := Option.some.inj ho
    refine wpOp_on ho (wanted_none rfl) ?_
    have d0 : a.eval (.tmp 19) = .pointer (some ⟨q, 0, none⟩) := haft ⟨4, .data⟩ (by simp [ak5]) rfl
    exact wp_valueZ (v := .pointer (some ⟨q, 0, none⟩)) (w' := X) (by simp [execOp, ak5, d0]) (hKK _ _ r rfl)
  · obtain rfl : ak6 = o := Option.some.inj ho
    refine wpOp_on ho (wanted_none rfl) ?_
    have d0 : a.eval (.tmp 20) = .pointer (some ⟨q, 0, none⟩) := haft ⟨5, .data⟩ (by simp [ak6]) rfl
    exact wp_valueZ (v := .pointer (some ⟨q, 3, none⟩)) (w' := X) (by simp [execOp, ak6, d0, fldI1]) (hKK _ _ r rfl)
  · obtain rfl : ak7 = o := Option.some.inj ho
    refine wpOp_on ho (wanted_none rfl) ?_
    have d0 : a.eval (.tmp 21) = .pointer (some ⟨q, 3, none⟩) := haft ⟨6, .data⟩ (by simp [ak7]) rfl
    have q := (bl.cell (p := ⟨q, 3, none⟩) (World.block_lt_of_cell? W _ h3)).trans h3
    exact wp_valueZ (v := .slice a2 n2 c2) (w' := X) (by simp [execOp, ak7, d0, ldRi q]) (hKK _ _ r rfl)
  · obtain rfl : ak8 = o := Option.some.inj ho
    refine wpOp_on ho (wanted_none rfl) ?_
    have d3 : a.eval (.tmp 18) = .slice aw nw cw := haft ⟨3, .data⟩ (by simp [ak8]) rfl
    have d7 : a.eval (.tmp 22) = .slice a2 n2 c2 := haft ⟨7, .data⟩ (by simp [ak8]) rfl
    exact wp_valueZ (v := .slice (some ⟨X.heap.size, 0, none⟩) 2 2) (w' := X.alloc (.cells #[.slice aw nw cw, .slice a2 n2 c2] 29)) (by simp [execOp, ak8, d3, d7, run_litJ2]) (hKK _ _ (ballo _ _) ⟨_, rfl, by simp, by simp⟩)
  · obtain rfl : ak9 = o := Option.some.inj ho
    refine wpOp_on ho (wanted_none rfl) ?_
    obtain ⟨g, d0, d1, d2⟩ : ∃ g, a.eval (.tmp 23) = .slice (some ⟨g, 0, none⟩) 2 2 ∧ X.cell? ⟨g, 0, none⟩ = some (.slice aw nw cw) ∧ X.cell? ⟨g, 1, none⟩ = some (.slice a2 n2 c2) := haft ⟨8, .data⟩ (by simp [ak9]) rfl
    refine wp_enterZ (run_call1 rfl (enters_of Try.func41 (by kernel_rfl) rfl) d0) (hJ X g bl d1 d2) ?_
    rintro e X' ⟨a1, c1, rfl, ho, hb⟩
    exact ⟨_, rfl, hKK _ _ hb ⟨a1, c1, rfl, ho.mono (by rw [hN]; exact bl.size)⟩⟩
  · obtain rfl : ak10 = o := Option.some.inj ho
    refine wpOp_on ho (wanted_none rfl) ?_
    obtain ⟨a1, c1, d9, d10⟩ : ∃ a1 c1, a.eval (.tmp 24) = .slice a1 l.length c1 ∧ OwnL .i64 3 X N (.slice a1 l.length c1) l := haft ⟨9, .data⟩ (by simp [ak10]) rfl
    exact wp_valueZ (v := .slice a1 l.length c1) (w' := X) (by simp [execOp, ak10, d9]) (hKK _ _ r ⟨a1, c1, rfl, d10⟩)
  · obtain rfl : ak11 = o := Option.some.inj ho
    refine wpOp_on ho (wanted_none rfl) ?_
    exact wp_valueZ (v := .bool true) (w' := X) (by simp [execOp, ak11]; rfl) (hKK _ _ r rfl)
set_option maxRecDepth 100000 in
set_option maxHeartbeats 8000000 in
theorem ak_region {Q : Exit → Act → World → Prop} (W : World) (N b q : Nat) (aw : Option Addr) (nw cw : Nat) (a2 : Option Addr) (n2 c2 : Nat) (l : List Int) (ds : List Deferred) (t1 t2 t3 t5 t6 t7 t8 t9 t10 t11 t12 t13 t14 t15 t16 t17 t18 t19 t20 t21 t22 t23 t24 : Value)
    (h6 : W.cell? ⟨b, 6, none⟩ = some (.slice aw nw cw)) (h3 : W.cell? ⟨q, 3, none⟩ = some (.slice a2 n2 c2)) (hN : N = W.heap.size)
    (hJ : ∀ X g, Below W.heap.size W X → X.cell? ⟨g, 0, none⟩ = some (.slice aw nw cw) → X.cell? ⟨g, 1, none⟩ = some (.slice a2 n2 c2) → Calls Try.prog 41 #[.slice (some ⟨g, 0, none⟩) 2 2] X fun e X' => ∃ a1 c1, e = .returned (.slice a1 l.length c1) ∧ OwnL .i64 3 X' X.heap.size (.slice a1 l.length c1) l ∧ Below X.heap.size X X')
    (fin : ∀ X (u15 u16 u17 u18 u19 u20 u21 u22 u23 u24 u2 : Value), Below W.heap.size W X → (∃ a1 c1, u2 = .slice a1 l.length c1 ∧ OwnL .i64 3 X N (.slice a1 l.length c1) l) → Q .normal ⟨#[.pointer (some ⟨b, 0, none⟩), t1, u2, .bool true, .pointer (some ⟨q, 0, none⟩), t5, t6, t7, t8, t9, t10, t11, t12, t13, t14, u15, u16, u17, u18, u19, u20, u21, u22, u23, u24], ds⟩ X) :
    (Code.region 6 akOps true).wp Try.prog Q ⟨#[.pointer (some ⟨b, 0, none⟩), t1, t2, t3, .pointer (some ⟨q, 0, none⟩), t5, t6, t7, t8, t9, t10, t11, t12, t13, t14, t15, t16, t17, t18, t19, t20, t21, t22, t23, t24], ds⟩ W := by
  obtain ⟨a0, ha0⟩ : ∃ a0 : Act, a0 = ⟨#[.pointer (some ⟨b, 0, none⟩), t1, t2, t3, .pointer (some ⟨q, 0, none⟩), t5, t6, t7, t8, t9, t10, t11, t12, t13, t14, t15, t16, t17, t18, t19, t20, t21, t22, t23, t24], ds⟩ := ⟨_, rfl⟩
  have hs0 : a0.tmps.size = 25 := by rw [ha0]; rfl
  have hd0 : a0.defers = ds := by rw [ha0]
  have gY0 : a0.eval (.tmp 0) = .pointer (some ⟨b, 0, none⟩) := by rw [ha0]; rfl
  have gY1 : a0.eval (.tmp 1) = t1 := by rw [ha0]; rfl
  have gY4 : a0.eval (.tmp 4) = .pointer (some ⟨q, 0, none⟩) := by rw [ha0]; rfl
  have gY5 : a0.eval (.tmp 5) = t5 := by rw [ha0]; rfl
  have gY6 : a0.eval (.tmp 6) = t6 := by rw [ha0]; rfl
  have gY7 : a0.eval (.tmp 7) = t7 := by rw [ha0]; rfl
  have gY8 : a0.eval (.tmp 8) = t8 := by rw [ha0]; rfl
  have gY9 : a0.eval (.tmp 9) = t9 := by rw [ha0]; rfl
  have gY10 : a0.eval (.tmp 10) = t10 := by rw [ha0]; rfl
  have gY11 : a0.eval (.tmp 11) = t11 := by rw [ha0]; rfl
  have gY12 : a0.eval (.tmp 12) = t12 := by rw [ha0]; rfl
  have gY13 : a0.eval (.tmp 13) = t13 := by rw [ha0]; rfl
  have gY14 : a0.eval (.tmp 14) = t14 := by rw [ha0]; rfl
  rw [← ha0]
  refine ak_core W N b q aw nw cw a2 n2 c2 l a0 hs0 gY0 gY4 h6 h3 hN hJ ?_
  clear ha0
  intro a X E
  have hq := fin X (a.eval (.tmp 15)) (a.eval (.tmp 16)) (a.eval (.tmp 17)) (a.eval (.tmp 18)) (a.eval (.tmp 19)) (a.eval (.tmp 20)) (a.eval (.tmp 21)) (a.eval (.tmp 22)) (a.eval (.tmp 23)) (a.eval (.tmp 24)) (a.eval (.tmp 2)) E.bl (E.vs 10 (by decide) trivial)
  have ea : a = ⟨#[a.eval (.tmp 0), a.eval (.tmp 1), a.eval (.tmp 2), a.eval (.tmp 3), a.eval (.tmp 4), a.eval (.tmp 5), a.eval (.tmp 6), a.eval (.tmp 7), a.eval (.tmp 8), a.eval (.tmp 9), a.eval (.tmp 10), a.eval (.tmp 11), a.eval (.tmp 12), a.eval (.tmp 13), a.eval (.tmp 14), a.eval (.tmp 15), a.eval (.tmp 16), a.eval (.tmp 17), a.eval (.tmp 18), a.eval (.tmp 19), a.eval (.tmp 20), a.eval (.tmp 21), a.eval (.tmp 22), a.eval (.tmp 23), a.eval (.tmp 24)], a.defers⟩ := act_eta a 25 (E.sz.trans hs0)
  rw [ea, E.df, hd0]
  have kY0 : a.eval (.tmp 0) = .pointer (some ⟨b, 0, none⟩) := (E.ag 0 (by decide)).trans gY0
  have kY1 : a.eval (.tmp 1) = t1 := (E.ag 1 (by decide)).trans gY1
  have kY3 : a.eval (.tmp 3) = .bool true := E.vs 11 (by decide) trivial
  have kY4 : a.eval (.tmp 4) = .pointer (some ⟨q, 0, none⟩) := (E.ag 4 (by decide)).trans gY4
  have kY5 : a.eval (.tmp 5) = t5 := (E.ag 5 (by decide)).trans gY5
  have kY6 : a.eval (.tmp 6) = t6 := (E.ag 6 (by decide)).trans gY6
  have kY7 : a.eval (.tmp 7) = t7 := (E.ag 7 (by decide)).trans gY7
  have kY8 : a.eval (.tmp 8) = t8 := (E.ag 8 (by decide)).trans gY8
  have kY9 : a.eval (.tmp 9) = t9 := (E.ag 9 (by decide)).trans gY9
  have kY10 : a.eval (.tmp 10) = t10 := (E.ag 10 (by decide)).trans gY10
  have kY11 : a.eval (.tmp 11) = t11 := (E.ag 11 (by decide)).trans gY11
  have kY12 : a.eval (.tmp 12) = t12 := (E.ag 12 (by decide)).trans gY12
  have kY13 : a.eval (.tmp 13) = t13 := (E.ag 13 (by decide)).trans gY13
  have kY14 : a.eval (.tmp 14) = t14 := (E.ag 14 (by decide)).trans gY14
  rw [kY0, kY1, kY3, kY4, kY5, kY6, kY7, kY8, kY9, kY10, kY11, kY12, kY13, kY14]
  exact hq
theorem run_notR {a : Act} {o : Oper} {x : Operand} {X : Bool} {w : World} (ho : o.op = .unOp .not 4 x) (hx : a.eval x = .bool X) : (execOp a.eval o).run Try.prog w = .ok (.value (.bool (!X))) w := by
  simp only [execOp, ho, hx]
  go_simp
theorem run_call3Z {P : Program} {a : Act} {o : Oper} {f : Nat} {x y z : Operand} {ts : Array TypeId} {u v u' : Value} {w : World} (ho : o.op = .call { callee := .value (.func f), args := #[x, y, z], argTypes := ts }) (hen : ∀ args w, (callFunc f args).run P w = .ok (.enter f args) w) (hx : a.eval x = u) (hy : a.eval y = v) (hz : a.eval z = u') : (execOp a.eval o).run P w = .ok (.enter f #[u, v, u']) w := by
  have ef : a.eval (.func f) = .func (.func f) #[] #[] := rfl
  simp [execOp, ho, ef, hx, hy, hz, resolve, invoke, Deferred.ofValue, hen]
def tq0 : Oper := { dst := some 19, op := Op.move (Operand.tmp 0), type := 25, pos := "tree.go:73", after := #[], guard := none }
def tq1 : Oper := { dst := some 20, op := Op.move (Operand.tmp 0), type := 25, pos := "tree.go:73", after := #[], guard := none }
def tq2 : Oper := { dst := some 21, op := Op.nilCheck (Operand.tmp 20), type := 0, pos := "tree.go:73", after := #[{ on := 1, ground := Ground.data }], guard := none }
def tq3 : Oper := { dst := some 22, op := Op.fieldAddr 83 (Operand.tmp 21) 6, type := 0, pos := "tree.go:73", after := #[{ on := 2, ground := Ground.data }], guard := none }
def tq4 : Oper := { dst := some 23, op := Op.load 29 (Operand.tmp 22), type := 29, pos := "tree.go:73", after := #[{ on := 3, ground := Ground.data }], guard := none }
def tq5 : Oper := { dst := some 24, op := Op.move (Operand.tmp 5), type := 86, pos := "tree.go:73", after := #[], guard := none }
def tq6 : Oper := { dst := some 25, op := Op.nilCheck (Operand.tmp 24), type := 0, pos := "tree.go:73", after := #[{ on := 5, ground := Ground.data }], guard := none }
def tq7 : Oper := { dst := some 26, op := Op.fieldAddr 98 (Operand.tmp 25) 1, type := 0, pos := "tree.go:73", after := #[{ on := 6, ground := Ground.data }], guard := none }
def tq8 : Oper := { dst := some 27, op := Op.load 29 (Operand.tmp 26), type := 29, pos := "tree.go:73", after := #[{ on := 7, ground := Ground.data }], guard := none }
def tq9 : Oper := { dst := some 28, op := Op.buildSlice 32 2 #[(0, Operand.tmp 23), (1, Operand.tmp 27)], type := 32, pos := "tree.go:73", after := #[{ on := 4, ground := Ground.data }, { on := 8, ground := Ground.data }], guard := none }
def tq10 : Oper := { dst := some 29, op := Op.call { callee := Callee.value (Operand.func 41), args := #[Operand.tmp 28], argTypes := #[32] }, type := 29, pos := "tree.go:73", after := #[{ on := 9, ground := Ground.data }], guard := none }
def tq11 : Oper := { dst := some 30, op := Op.move (Operand.tmp 1), type := 29, pos := "tree.go:73", after := #[], guard := none }
def tq12 : Oper := { dst := some 31, op := Op.call { callee := Callee.value (Operand.func 44), args := #[Operand.tmp 19, Operand.tmp 29, Operand.tmp 30], argTypes := #[25, 29, 29] }, type := 4, pos := "tree.go:73", after := #[{ on := 0, ground := Ground.data }, { on := 10, ground := Ground.data }, { on := 11, ground := Ground.data }, { on := 10, ground := Ground.chain }], guard := none }
def tq13 : Oper := { dst := some 32, op := Op.unOp UnOp.not 4 (Operand.tmp 31), type := 4, pos := "tree.go:73", after := #[{ on := 12, ground := Ground.data }], guard := none }
def tqOps : Array Oper := #[tq0, tq1, tq2, tq3, tq4, tq5, tq6, tq7, tq8, tq9, tq10, tq11, tq12, tq13]

def tqT (N b q : Nat) (aw : Option Addr) (nw cw : Nat) (a2 : Option Addr) (n2 c2 : Nat) (l : List Int) (ao : Option Addr) (no co : Nat) (F : Bool) : Nat → Value → World → Prop
  | 0, v, _ => v = .pointer (some ⟨b, 0, none⟩)
  | 1, v, _ => v = .pointer (some ⟨b, 0, none⟩)
  | 2, v, _ => v = .pointer (some ⟨b, 0, none⟩)
  | 3, v, _ => v = .pointer (some ⟨b, 6, none⟩)
  | 4, v, _ => v = .slice aw nw cw
  | 5, v, _ => v = .pointer (some ⟨q, 0, none⟩)
  | 6, v, _ => v = .pointer (some ⟨q, 0, none⟩)
  | 7, v, _ => v = .pointer (some ⟨q, 3, none⟩)
  | 8, v, _ => v = .slice a2 n2 c2
  | 9, v, W => ∃ g, v = .slice (some ⟨g, 0, none⟩) 2 2 ∧ W.cell? ⟨g, 0, none⟩ = some (.slice aw nw cw) ∧ W.cell? ⟨g, 1, none⟩ = some (.slice a2 n2 c2)
  | 10, v, W => ∃ a1 c1, v = .slice a1 l.length c1 ∧ OwnL .i64 3 W N (.slice a1 l.length c1) l
  | 11, v, _ => v = .slice ao no co
  | 12, v, _ => v = .bool F
  | 13, v, _ => v = .bool !F
  | _, _, _ => True
theorem tqT_below (N b q : Nat) (aw : Option Addr) (nw cw : Nat) (a2 : Option Addr) (n2 c2 : Nat) (l : List Int) (ao : Option Addr) (no co : Nat) (F : Bool) {v : Value} {W W' : World} (hb : Below W.heap.size W W') : ∀ {i : Nat}, tqT N b q aw nw cw a2 n2 c2 l ao no co F i v W → tqT N b q aw nw cw a2 n2 c2 l ao no co F i v W'
  | 0, h => h
  | 1, h => h
  | 2, h => h
  | 3, h => h
  | 4, h => h
  | 5, h => h
  | 6, h => h
  | 7, h => h
  | 8, h => h
  | 9, h => by obtain ⟨g, e, h1, h2⟩ := h; exact ⟨g, e, (hb.cell (World.block_lt_of_cell? _ _ h1)).trans h1, (hb.cell (World.block_lt_of_cell? _ _ h2)).trans h2⟩
  | 10, h => by obtain ⟨a1, c1, e, h1⟩ := h; exact ⟨a1, c1, e, h1.grown hb⟩
  | 11, h => h
  | 12, h => h
  | 13, h => h
  | _ + 14, h => h
set_option maxRecDepth 100000 in
set_option maxHeartbeats 1000000 in
theorem tq_ok : okG tqOps [19, 20, 21, 22, 23, 24, 25, 26, 27, 28, 29, 30, 31, 32] = true := by kernel_rfl
set_option maxRecDepth 100000 in
set_option maxHeartbeats 8000000 in
theorem tq_core {Q : Exit → Act → World → Prop} (W : World) (N b q : Nat) (aw : Option Addr) (nw cw : Nat) (a2 : Option Addr) (n2 c2 : Nat) (l : List Int) (ao : Option Addr) (no co : Nat) (F : Bool) (a0 : Act) (hs0 : a0.tmps.size = 65) (eY0 : a0.eval (.tmp 0) = .pointer (some ⟨b, 0, none⟩)) (eY1 : a0.eval (.tmp 1) = .slice ao no co) (eY5 : a0.eval (.tmp 5) = .pointer (some ⟨q, 0, none⟩))
    (h6 : W.cell? ⟨b, 6, none⟩ = some (.slice aw nw cw)) (h3 : W.cell? ⟨q, 3, none⟩ = some (.slice a2 n2 c2)) (hN : N = W.heap.size)
    (hJ : ∀ X g, Below W.heap.size W X → X.cell? ⟨g, 0, none⟩ = some (.slice aw nw cw) → X.cell? ⟨g, 1, none⟩ = some (.slice a2 n2 c2) → Calls Try.prog 41 #[.slice (some ⟨g, 0, none⟩) 2 2] X fun e X' => ∃ a1 c1, e = .returned (.slice a1 l.length c1) ∧ OwnL .i64 3 X' X.heap.size (.slice a1 l.length c1) l ∧ Below X.heap.size X X')
    (hf : ∀ X a1 c1, Below W.heap.size W X → Calls Try.prog 44 #[.pointer (some ⟨b, 0, none⟩), .slice a1 l.length c1, .slice ao no co] X fun e X' => e = .returned (.bool F) ∧ Below X.heap.size X X')
    (fin : ∀ a X, EInv a0 W 14 (fun i => [19, 20, 21, 22, 23, 24, 25, 26, 27, 28, 29, 30, 31, 32].getD i 0) (tqT N b q aw nw cw a2 n2 c2 l ao no co F) (fun _ => True) a X → Q .normal a X) :
    (Code.region 6 tqOps true).wp Try.prog Q a0 W := by
  refine wp_region_guard (by kernel_rfl) a0 W 14 (fun i => [19, 20, 21, 22, 23, 24, 25, 26, 27, 28, 29, 30, 31, 32].getD i 0) (tqT N b q aw nw cw a2 n2 c2 l ao no co F) rfl (fun _ _ _ _ h hb => tqT_below N b q aw nw cw a2 n2 c2 l ao no co F hb h) (by decide) (fun i hi => by rw [hs0]; exact (show ∀ i, i < 14 → [19, 20, 21, 22, 23, 24, 25, 26, 27, 28, 29, 30, 31, 32].getD i 0 < 65 by decide) i hi) (hdG_of tq_ok) ?_ fin
  intro j o ho a X E haft KK hKK
  have hj : j < 14 := (Array.getElem?_eq_some_iff.1 ho).1
  have hsz : a.tmps.size = 65 := E.sz.trans hs0
  have fY0 : a.eval (.tmp 0) = .pointer (some ⟨b, 0, none⟩) := (E.ag 0 (by decide)).trans eY0
  have fY1 : a.eval (.tmp 1) = .slice ao no co := (E.ag 1 (by decide)).trans eY1
  have fY5 : a.eval (.tmp 5) = .pointer (some ⟨q, 0, none⟩) := (E.ag 5 (by decide)).trans eY5
  have r := Below.refl X.heap.size X
  have bl := E.bl
  clear E fin
  rcases (by omega : j = 0 ∨ j = 1 ∨ j = 2 ∨ j = 3 ∨ j = 4 ∨ j = 5 ∨ j = 6 ∨ j = 7 ∨ j = 8 ∨ j = 9 ∨ j = 10 ∨ j = 11 ∨ j = 12 ∨ j = 13) with rfl | rfl | rfl | rfl | rfl | rfl | rfl | rfl | rfl | rfl | rfl | rfl | rfl | rfl
  · obtain rfl : tq0 = o := Option.some.inj ho
    refine wpOp_on ho (wanted_none rfl) ?_
    exact wp_valueZ (v := .pointer (some ⟨b, 0, none⟩)) (w' := X) (by simp [execOp, tq0, fY0]) (hKK _ _ r rfl)
  · obtain rfl : tq1 = o := Option.some.inj ho
    refine wpOp_on ho (wanted_none rfl) ?_
    exact wp_valueZ (v := .pointer (some ⟨b, 0, none⟩)) (w' := X) (by simp [execOp, tq1, fY0]) (hKK _ _ r rfl)
  · obtain rfl : tq2 = o := Option.some.inj ho
    refine wpOp_on ho (wanted_none rfl) ?_
    have d0 : a.eval (.tmp 20) = .pointer (some ⟨b, 0, none⟩) := haft ⟨1, .data⟩ (by simp [tq2]) rfl
    exact wp_valueZ (v := .pointer (some ⟨b, 0, none⟩)) (w' := X) (by simp [execOp, tq2, d0]) (hKK _ _ r rfl)
  · obtain rfl : tq3 = o := Option.some.inj ho
    refine wpOp_on ho (wanted_none rfl) ?_
    have d0 : a.eval (.tmp 21) = .pointer (some ⟨b, 0, none⟩) := haft ⟨2, .data⟩ (by simp [tq3]) rfl
    exact wp_valueZ (v := .pointer (some ⟨b, 6, none⟩)) (w' := X) (by simp [execOp, tq3, d0, fldR6]) (hKK _ _ r rfl)
  · obtain rfl : tq4 = o := Option.some.inj ho
    refine wpOp_on ho (wanted_none rfl) ?_
    have d0 : a.eval (.tmp 22) = .pointer (some ⟨b, 6, none⟩) := haft ⟨3, .data⟩ (by simp [tq4]) rfl
    have q := (bl.cell (p := ⟨b, 6, none⟩) (World.block_lt_of_cell? W _ h6)).trans h6
    exact wp_valueZ (v := .slice aw nw cw) (w' := X) (by simp [execOp, tq4, d0, ldRi q]) (hKK _ _ r rfl)
  · obtain rfl : tq5 = o := Option.some.inj ho
    refine wpOp_on ho (wanted_none rfl) ?_
    exact wp_valueZ (v := .pointer (some ⟨q, 0, none⟩)) (w' := X) (by simp [execOp, tq5, fY5]) (hKK _ _ r rfl)
  · obtain rfl : tq6 = o := Option.some.inj ho
    refine wpOp_on ho (wanted_none rfl) ?_
    have d0 : a.eval (.tmp 24) = .pointer (some ⟨q, 0, none⟩) := haft ⟨5, .data⟩ (by simp [tq6]) rfl
    exact wp_valueZ (v := .pointer (some ⟨q, 0, none⟩)) (w' := X) (by simp [execOp, tq6, d0]) (hKK _ _ r rfl)
  · obtain rfl : tq7 = o := Option.some.inj ho
    refine wpOp_on ho (wanted_none rfl) ?_
    have d0 : a.eval (.tmp 25) = .pointer (some ⟨q, 0, none⟩) := haft ⟨6, .data⟩ (by simp [tq7]) rfl
    exact wp_valueZ (v := .pointer (some ⟨q, 3, none⟩)) (w' := X) (by simp [execOp, tq7, d0, fldI1]) (hKK _ _ r rfl)
  · obtain rfl : tq8 = o := Option.some.inj ho
    refine wpOp_on ho (wanted_none rfl) ?_
    have d0 : a.eval (.tmp 26) = .pointer (some ⟨q, 3, none⟩) := haft ⟨7, .data⟩ (by simp [tq8]) rfl
    have q := (bl.cell (p := ⟨q, 3, none⟩) (World.block_lt_of_cell? W _ h3)).trans h3
    exact wp_valueZ (v := .slice a2 n2 c2) (w' := X) (by simp [execOp, tq8, d0, ldRi q]) (hKK _ _ r rfl)
  · obtain rfl : tq9 = o := Option.some.inj ho
    refine wpOp_on ho (wanted_none rfl) ?_
    have d4 : a.eval (.tmp 23) = .slice aw nw cw := haft ⟨4, .data⟩ (by simp [tq9]) rfl
    have d8 : a.eval (.tmp 27) = .slice a2 n2 c2 := haft ⟨8, .data⟩ (by simp [tq9]) rfl
    exact wp_valueZ (v := .slice (some ⟨X.heap.size, 0, none⟩) 2 2) (w' := X.alloc (.cells #[.slice aw nw cw, .slice a2 n2 c2] 29)) (by simp [execOp, tq9, d4, d8, run_litJ2]) (hKK _ _ (ballo _ _) ⟨_, rfl, by simp, by simp⟩)
  · obtain rfl : tq10 = o := Option.some.inj ho
    refine wpOp_on ho (wanted_none rfl) ?_
    obtain ⟨g, d0, d1, d2⟩ : ∃ g, a.eval (.tmp 28) = .slice (some ⟨g, 0, none⟩) 2 2 ∧ X.cell? ⟨g, 0, none⟩ = some (.slice aw nw cw) ∧ X.cell? ⟨g, 1, none⟩ = some (.slice a2 n2 c2) := haft ⟨9, .data⟩ (by simp [tq10]) rfl
    refine wp_enterZ (run_call1 rfl (enters_of Try.func41 (by kernel_rfl) rfl) d0) (hJ X g bl d1 d2) ?_
    rintro e X' ⟨a1, c1, rfl, ho, hb⟩
    exact ⟨_, rfl, hKK _ _ hb ⟨a1, c1, rfl, ho.mono (by rw [hN]; exact bl.size)⟩⟩
  · obtain rfl : tq11 = o := Option.some.inj ho
    refine wpOp_on ho (wanted_none rfl) ?_
    exact wp_valueZ (v := .slice ao no co) (w' := X) (by simp [execOp, tq11, fY1]) (hKK _ _ r rfl)
  · obtain rfl : tq12 = o := Option.some.inj ho
    refine wpOp_on ho (wanted_none rfl) ?_
    have d0 : a.eval (.tmp 19) = .pointer (some ⟨b, 0, none⟩) := haft ⟨0, .data⟩ (by simp [tq12]) rfl
    obtain ⟨a1, c1, e1, d10⟩ : ∃ a1 c1, a.eval (.tmp 29) = .slice a1 l.length c1 ∧ OwnL .i64 3 X N (.slice a1 l.length c1) l := haft ⟨10, .data⟩ (by simp [tq12]) rfl
    have d11 : a.eval (.tmp 30) = .slice ao no co := haft ⟨11, .data⟩ (by simp [tq12]) rfl
    refine wp_enterZ (run_call3Z rfl (enters_of Try.func44 (by kernel_rfl) rfl) d0 e1 d11) (hf X a1 c1 bl) ?_
    rintro e X' ⟨rfl, hb⟩
    exact ⟨_, rfl, hKK _ _ hb rfl⟩
  · obtain rfl : tq13 = o := Option.some.inj ho
    refine wpOp_on ho (wanted_none rfl) ?_
    have d0 : a.eval (.tmp 31) = .bool F := haft ⟨12, .data⟩ (by simp [tq13]) rfl
    exact wp_valueZ (v := .bool !F) (w' := X) (run_notR rfl d0) (hKK _ _ r rfl)
set_option maxRecDepth 100000 in
set_option maxHeartbeats 8000000 in
theorem tq_region {Q : Exit → Act → World → Prop} (W : World) (N b q : Nat) (aw : Option Addr) (nw cw : Nat) (a2 : Option Addr) (n2 c2 : Nat) (l : List Int) (ao : Option Addr) (no co : Nat) (F : Bool) (ds : List Deferred) (t2 t3 t4 t6 t7 t8 t9 t10 t11 t12 t13 t14 t15 t16 t17 t18 t19 t20 t21 t22 t23 t24 t25 t26 t27 t28 t29 t30 t31 t32 t33 t34 t35 t36 t37 t38 t39 t40 t41 t42 t43 t44 t45 t46 t47 t48 t49 t50 t51 t52 t53 t54 t55 t56 t57 t58 t59 t60 t61 t62 t63 t64 : Value)
    (h6 : W.cell? ⟨b, 6, none⟩ = some (.slice aw nw cw)) (h3 : W.cell? ⟨q, 3, none⟩ = some (.slice a2 n2 c2)) (hN : N = W.heap.size)
    (hJ : ∀ X g, Below W.heap.size W X → X.cell? ⟨g, 0, none⟩ = some (.slice aw nw cw) → X.cell? ⟨g, 1, none⟩ = some (.slice a2 n2 c2) → Calls Try.prog 41 #[.slice (some ⟨g, 0, none⟩) 2 2] X fun e X' => ∃ a1 c1, e = .returned (.slice a1 l.length c1) ∧ OwnL .i64 3 X' X.heap.size (.slice a1 l.length c1) l ∧ Below X.heap.size X X')
    (hf : ∀ X a1 c1, Below W.heap.size W X → Calls Try.prog 44 #[.pointer (some ⟨b, 0, none⟩), .slice a1 l.length c1, .slice ao no co] X fun e X' => e = .returned (.bool F) ∧ Below X.heap.size X X')
    (fin : ∀ X (u19 u20 u21 u22 u23 u24 u25 u26 u27 u28 u29 u30 u31 : Value), Below W.heap.size W X → Q .normal ⟨#[.pointer (some ⟨b, 0, none⟩), .slice ao no co, t2, t3, t4, .pointer (some ⟨q, 0, none⟩), t6, t7, t8, t9, t10, t11, t12, t13, t14, t15, t16, t17, t18, u19, u20, u21, u22, u23, u24, u25, u26, u27, u28, u29, u30, u31, .bool !F, t33, t34, t35, t36, t37, t38, t39, t40, t41, t42, t43, t44, t45, t46, t47, t48, t49, t50, t51, t52, t53, t54, t55, t56, t57, t58, t59, t60, t61, t62, t63, t64], ds⟩ X) :
    (Code.region 6 tqOps true).wp Try.prog Q ⟨#[.pointer (some ⟨b, 0, none⟩), .slice ao no co, t2, t3, t4, .pointer (some ⟨q, 0, none⟩), t6, t7, t8, t9, t10, t11, t12, t13, t14, t15, t16, t17, t18, t19, t20, t21, t22, t23, t24, t25, t26, t27, t28, t29, t30, t31, t32, t33, t34, t35, t36, t37, t38, t39, t40, t41, t42, t43, t44, t45, t46, t47, t48, t49, t50, t51, t52, t53, t54, t55, t56, t57, t58, t59, t60, t61, t62, t63, t64], ds⟩ W := by
  obtain ⟨a0, ha0⟩ : ∃ a0 : Act, a0 = ⟨#[.pointer (some ⟨b, 0, none⟩), .slice ao no co, t2, t3, t4, .pointer (some ⟨q, 0, none⟩), t6, t7, t8, t9, t10, t11, t12, t13, t14, t15, t16, t17, t18, t19, t20, t21, t22, t23, t24, t25, t26, t27, t28, t29, t30, t31, t32, t33, t34, t35, t36, t37, t38, t39, t40, t41, t42, t43, t44, t45, t46, t47, t48, t49, t50, t51, t52, t53, t54, t55, t56, t57, t58, t59, t60, t61, t62, t63, t64], ds⟩ := ⟨_, rfl⟩
  have hs0 : a0.tmps.size = 65 := by rw [ha0]; rfl
  have hd0 : a0.defers = ds := by rw [ha0]
  have gY0 : a0.eval (.tmp 0) = .pointer (some ⟨b, 0, none⟩) := by rw [ha0]; rfl
  have gY1 : a0.eval (.tmp 1) = .slice ao no co := by rw [ha0]; rfl
  have gY2 : a0.eval (.tmp 2) = t2 := by rw [ha0]; rfl
  have gY3 : a0.eval (.tmp 3) = t3 := by rw [ha0]; rfl
  have gY4 : a0.eval (.tmp 4) = t4 := by rw [ha0]; rfl
  have gY5 : a0.eval (.tmp 5) = .pointer (some ⟨q, 0, none⟩) := by rw [ha0]; rfl
  have gY6 : a0.eval (.tmp 6) = t6 := by rw [ha0]; rfl
  have gY7 : a0.eval (.tmp 7) = t7 := by rw [ha0]; rfl
  have gY8 : a0.eval (.tmp 8) = t8 := by rw [ha0]; rfl
  have gY9 : a0.eval (.tmp 9) = t9 := by rw [ha0]; rfl
  have gY10 : a0.eval (.tmp 10) = t10 := by rw [ha0]; rfl
  have gY11 : a0.eval (.tmp 11) = t11 := by rw [ha0]; rfl
  have gY12 : a0.eval (.tmp 12) = t12 := by rw [ha0]; rfl
  have gY13 : a0.eval (.tmp 13) = t13 := by rw [ha0]; rfl
  have gY14 : a0.eval (.tmp 14) = t14 := by rw [ha0]; rfl
  have gY15 : a0.eval (.tmp 15) = t15 := by rw [ha0]; rfl
  have gY16 : a0.eval (.tmp 16) = t16 := by rw [ha0]; rfl
  have gY17 : a0.eval (.tmp 17) = t17 := by rw [ha0]; rfl
  have gY18 : a0.eval (.tmp 18) = t18 := by rw [ha0]; rfl
  have gY33 : a0.eval (.tmp 33) = t33 := by rw [ha0]; rfl
  have gY34 : a0.eval (.tmp 34) = t34 := by rw [ha0]; rfl
  have gY35 : a0.eval (.tmp 35) = t35 := by rw [ha0]; rfl
  have gY36 : a0.eval (.tmp 36) = t36 := by rw [ha0]; rfl
  have gY37 : a0.eval (.tmp 37) = t37 := by rw [ha0]; rfl
  have gY38 : a0.eval (.tmp 38) = t38 := by rw [ha0]; rfl
  have gY39 : a0.eval (.tmp 39) = t39 := by rw [ha0]; rfl
  have gY40 : a0.eval (.tmp 40) = t40 := by rw [ha0]; rfl
  have gY41 : a0.eval (.tmp 41) = t41 := by rw [ha0]; rfl
  have gY42 : a0.eval (.tmp 42) = t42 := by rw [ha0]; rfl
  have gY43 : a0.eval (.tmp 43) = t43 := by rw [ha0]; rfl
  have gY44 : a0.eval (.tmp 44) = t44 := by rw [ha0]; rfl
  have gY45 : a0.eval (.tmp 45) = t45 := by rw [ha0]; rfl
  have gY46 : a0.eval (.tmp 46) = t46 := by rw [ha0]; rfl
  have gY47 : a0.eval (.tmp 47) = t47 := by rw [ha0]; rfl
  have gY48 : a0.eval (.tmp 48) = t48 := by rw [ha0]; rfl
  have gY49 : a0.eval (.tmp 49) = t49 := by rw [ha0]; rfl
  have gY50 : a0.eval (.tmp 50) = t50 := by rw [ha0]; rfl
  have gY51 : a0.eval (.tmp 51) = t51 := by rw [ha0]; rfl
  have gY52 : a0.eval (.tmp 52) = t52 := by rw [ha0]; rfl
  have gY53 : a0.eval (.tmp 53) = t53 := by rw [ha0]; rfl
  have gY54 : a0.eval (.tmp 54) = t54 := by rw [ha0]; rfl
  have gY55 : a0.eval (.tmp 55) = t55 := by rw [ha0]; rfl
  have gY56 : a0.eval (.tmp 56) = t56 := by rw [ha0]; rfl
  have gY57 : a0.eval (.tmp 57) = t57 := by rw [ha0]; rfl
  have gY58 : a0.eval (.tmp 58) = t58 := by rw [ha0]; rfl
  have gY59 : a0.eval (.tmp 59) = t59 := by rw [ha0]; rfl
  have gY60 : a0.eval (.tmp 60) = t60 := by rw [ha0]; rfl
  have gY61 : a0.eval (.tmp 61) = t61 := by rw [ha0]; rfl
  have gY62 : a0.eval (.tmp 62) = t62 := by rw [ha0]; rfl
  have gY63 : a0.eval (.tmp 63) = t63 := by rw [ha0]; rfl
  have gY64 : a0.eval (.tmp 64) = t64 := by rw [ha0]; rfl
  rw [← ha0]
  refine tq_core W N b q aw nw cw a2 n2 c2 l ao no co F a0 hs0 gY0 gY1 gY5 h6 h3 hN hJ hf ?_
  clear ha0
  intro a X E
  have hq := fin X (a.eval (.tmp 19)) (a.eval (.tmp 20)) (a.eval (.tmp 21)) (a.eval (.tmp 22)) (a.eval (.tmp 23)) (a.eval (.tmp 24)) (a.eval (.tmp 25)) (a.eval (.tmp 26)) (a.eval (.tmp 27)) (a.eval (.tmp 28)) (a.eval (.tmp 29)) (a.eval (.tmp 30)) (a.eval (.tmp 31)) E.bl 
  have ea : a = ⟨#[a.eval (.tmp 0), a.eval (.tmp 1), a.eval (.tmp 2), a.eval (.tmp 3), a.eval (.tmp 4), a.eval (.tmp 5), a.eval (.tmp 6), a.eval (.tmp 7), a.eval (.tmp 8), a.eval (.tmp 9), a.eval (.tmp 10), a.eval (.tmp 11), a.eval (.tmp 12), a.eval (.tmp 13), a.eval (.tmp 14), a.eval (.tmp 15), a.eval (.tmp 16), a.eval (.tmp 17), a.eval (.tmp 18), a.eval (.tmp 19), a.eval (.tmp 20), a.eval (.tmp 21), a.eval (.tmp 22), a.eval (.tmp 23), a.eval (.tmp 24), a.eval (.tmp 25), a.eval (.tmp 26), a.eval (.tmp 27), a.eval (.tmp 28), a.eval (.tmp 29), a.eval (.tmp 30), a.eval (.tmp 31), a.eval (.tmp 32), a.eval (.tmp 33), a.eval (.tmp 34), a.eval (.tmp 35), a.eval (.tmp 36), a.eval (.tmp 37), a.eval (.tmp 38), a.eval (.tmp 39), a.eval (.tmp 40), a.eval (.tmp 41), a.eval (.tmp 42), a.eval (.tmp 43), a.eval (.tmp 44), a.eval (.tmp 45), a.eval (.tmp 46), a.eval (.tmp 47), a.eval (.tmp 48), a.eval (.tmp 49), a.eval (.tmp 50), a.eval (.tmp 51), a.eval (.tmp 52), a.eval (.tmp 53), a.eval (.tmp 54), a.eval (.tmp 55), a.eval (.tmp 56), a.eval (.tmp 57), a.eval (.tmp 58), a.eval (.tmp 59), a.eval (.tmp 60), a.eval (.tmp 61), a.eval (.tmp 62), a.eval (.tmp 63), a.eval (.tmp 64)], a.defers⟩ := act_eta a 65 (E.sz.trans hs0)
  rw [ea, E.df, hd0]
  have kY0 : a.eval (.tmp 0) = .pointer (some ⟨b, 0, none⟩) := (E.ag 0 (by decide)).trans gY0
  have kY1 : a.eval (.tmp 1) = .slice ao no co := (E.ag 1 (by decide)).trans gY1
  have kY2 : a.eval (.tmp 2) = t2 := (E.ag 2 (by decide)).trans gY2
  have kY3 : a.eval (.tmp 3) = t3 := (E.ag 3 (by decide)).trans gY3
  have kY4 : a.eval (.tmp 4) = t4 := (E.ag 4 (by decide)).trans gY4
  have kY5 : a.eval (.tmp 5) = .pointer (some ⟨q, 0, none⟩) := (E.ag 5 (by decide)).trans gY5
  have kY6 : a.eval (.tmp 6) = t6 := (E.ag 6 (by decide)).trans gY6
  have kY7 : a.eval (.tmp 7) = t7 := (E.ag 7 (by decide)).trans gY7
  have kY8 : a.eval (.tmp 8) = t8 := (E.ag 8 (by decide)).trans gY8
  have kY9 : a.eval (.tmp 9) = t9 := (E.ag 9 (by decide)).trans gY9
  have kY10 : a.eval (.tmp 10) = t10 := (E.ag 10 (by decide)).trans gY10
  have kY11 : a.eval (.tmp 11) = t11 := (E.ag 11 (by decide)).trans gY11
  have kY12 : a.eval (.tmp 12) = t12 := (E.ag 12 (by decide)).trans gY12
  have kY13 : a.eval (.tmp 13) = t13 := (E.ag 13 (by decide)).trans gY13
  have kY14 : a.eval (.tmp 14) = t14 := (E.ag 14 (by decide)).trans gY14
  have kY15 : a.eval (.tmp 15) = t15 := (E.ag 15 (by decide)).trans gY15
  have kY16 : a.eval (.tmp 16) = t16 := (E.ag 16 (by decide)).trans gY16
  have kY17 : a.eval (.tmp 17) = t17 := (E.ag 17 (by decide)).trans gY17
  have kY18 : a.eval (.tmp 18) = t18 := (E.ag 18 (by decide)).trans gY18
  have kY32 : a.eval (.tmp 32) = .bool !F := E.vs 13 (by decide) trivial
  have kY33 : a.eval (.tmp 33) = t33 := (E.ag 33 (by decide)).trans gY33
  have kY34 : a.eval (.tmp 34) = t34 := (E.ag 34 (by decide)).trans gY34
  have kY35 : a.eval (.tmp 35) = t35 := (E.ag 35 (by decide)).trans gY35
  have kY36 : a.eval (.tmp 36) = t36 := (E.ag 36 (by decide)).trans gY36
  have kY37 : a.eval (.tmp 37) = t37 := (E.ag 37 (by decide)).trans gY37
  have kY38 : a.eval (.tmp 38) = t38 := (E.ag 38 (by decide)).trans gY38
  have kY39 : a.eval (.tmp 39) = t39 := (E.ag 39 (by decide)).trans gY39
  have kY40 : a.eval (.tmp 40) = t40 := (E.ag 40 (by decide)).trans gY40
  have kY41 : a.eval (.tmp 41) = t41 := (E.ag 41 (by decide)).trans gY41
  have kY42 : a.eval (.tmp 42) = t42 := (E.ag 42 (by decide)).trans gY42
  have kY43 : a.eval (.tmp 43) = t43 := (E.ag 43 (by decide)).trans gY43
  have kY44 : a.eval (.tmp 44) = t44 := (E.ag 44 (by decide)).trans gY44
  have kY45 : a.eval (.tmp 45) = t45 := (E.ag 45 (by decide)).trans gY45
  have kY46 : a.eval (.tmp 46) = t46 := (E.ag 46 (by decide)).trans gY46
  have kY47 : a.eval (.tmp 47) = t47 := (E.ag 47 (by decide)).trans gY47
  have kY48 : a.eval (.tmp 48) = t48 := (E.ag 48 (by decide)).trans gY48
  have kY49 : a.eval (.tmp 49) = t49 := (E.ag 49 (by decide)).trans gY49
  have kY50 : a.eval (.tmp 50) = t50 := (E.ag 50 (by decide)).trans gY50
  have kY51 : a.eval (.tmp 51) = t51 := (E.ag 51 (by decide)).trans gY51
  have kY52 : a.eval (.tmp 52) = t52 := (E.ag 52 (by decide)).trans gY52
  have kY53 : a.eval (.tmp 53) = t53 := (E.ag 53 (by decide)).trans gY53
  have kY54 : a.eval (.tmp 54) = t54 := (E.ag 54 (by decide)).trans gY54
  have kY55 : a.eval (.tmp 55) = t55 := (E.ag 55 (by decide)).trans gY55
  have kY56 : a.eval (.tmp 56) = t56 := (E.ag 56 (by decide)).trans gY56
  have kY57 : a.eval (.tmp 57) = t57 := (E.ag 57 (by decide)).trans gY57
  have kY58 : a.eval (.tmp 58) = t58 := (E.ag 58 (by decide)).trans gY58
  have kY59 : a.eval (.tmp 59) = t59 := (E.ag 59 (by decide)).trans gY59
  have kY60 : a.eval (.tmp 60) = t60 := (E.ag 60 (by decide)).trans gY60
  have kY61 : a.eval (.tmp 61) = t61 := (E.ag 61 (by decide)).trans gY61
  have kY62 : a.eval (.tmp 62) = t62 := (E.ag 62 (by decide)).trans gY62
  have kY63 : a.eval (.tmp 63) = t63 := (E.ag 63 (by decide)).trans gY63
  have kY64 : a.eval (.tmp 64) = t64 := (E.ag 64 (by decide)).trans gY64
  rw [kY0, kY1, kY2, kY3, kY4, kY5, kY6, kY7, kY8, kY9, kY10, kY11, kY12, kY13, kY14, kY15, kY16, kY17, kY18, kY32, kY33, kY34, kY35, kY36, kY37, kY38, kY39, kY40, kY41, kY42, kY43, kY44, kY45, kY46, kY47, kY48, kY49, kY50, kY51, kY52, kY53, kY54, kY55, kY56, kY57, kY58, kY59, kY60, kY61, kY62, kY63, kY64]
  exact hq
def ac0 : Oper := { dst := some 4, op := Op.move (Operand.tmp 0), type := 84, pos := "tree.go:197", after := #[], guard := none }
def ac1 : Oper := { dst := some 5, op := Op.nilCheck (Operand.tmp 4), type := 0, pos := "tree.go:197", after := #[{ on := 0, ground := Ground.data }], guard := none }
def ac2 : Oper := { dst := some 6, op := Op.fieldAddr 111 (Operand.tmp 5) 2, type := 0, pos := "tree.go:197", after := #[{ on := 1, ground := Ground.data }], guard := none }
def ac3 : Oper := { dst := some 7, op := Op.load 29 (Operand.tmp 6), type := 29, pos := "tree.go:197", after := #[{ on := 2, ground := Ground.data }], guard := none }
def ac4 : Oper := { dst := some 8, op := Op.load 29 (Operand.tmp 1), type := 29, pos := "tree.go:197", after := #[], guard := none }
def ac5 : Oper := { dst := some 9, op := Op.call { callee := Callee.value (Operand.func 68), args := #[Operand.tmp 7, Operand.tmp 8], argTypes := #[29, 29] }, type := 4, pos := "tree.go:197", after := #[{ on := 3, ground := Ground.data }, { on := 4, ground := Ground.data }], guard := none }
def ac6 : Oper := { dst := some 3, op := Op.assign (Operand.tmp 9), type := 4, pos := "tree.go:197", after := #[{ on := 5, ground := Ground.data }, { on := 5, ground := Ground.chain }, { on := 0, ground := Ground.phase }, { on := 1, ground := Ground.phase }, { on := 2, ground := Ground.phase }, { on := 3, ground := Ground.phase }, { on := 4, ground := Ground.phase }, { on := 5, ground := Ground.phase }], guard := none }
def acOps : Array Oper := #[ac0, ac1, ac2, ac3, ac4, ac5, ac6]

def acT (q z : Nat) (aw : Option Addr) (nw cw : Nat) (a2 : Option Addr) (n2 c2 : Nat) (F : Bool) : Nat → Value → World → Prop
  | 0, v, _ => v = .pointer (some ⟨q, 0, none⟩)
  | 1, v, _ => v = .pointer (some ⟨q, 0, none⟩)
  | 2, v, _ => v = .pointer (some ⟨q, 4, none⟩)
  | 3, v, _ => v = .slice aw nw cw
  | 4, v, _ => v = .slice a2 n2 c2
  | 5, v, _ => v = .bool F
  | 6, v, _ => v = .bool F
  | _, _, _ => True
theorem acT_below (q z : Nat) (aw : Option Addr) (nw cw : Nat) (a2 : Option Addr) (n2 c2 : Nat) (F : Bool) {v : Value} {W W' : World} (hb : Below W.heap.size W W') : ∀ {i : Nat}, acT q z aw nw cw a2 n2 c2 F i v W → acT q z aw nw cw a2 n2 c2 F i v W'
  | 0, h => h
  | 1, h => h
  | 2, h => h
  | 3, h => h
  | 4, h => h
  | 5, h => h
  | 6, h => h
  | _ + 7, h => h
set_option maxRecDepth 100000 in
set_option maxHeartbeats 1000000 in
theorem ac_ok : okG acOps [4, 5, 6, 7, 8, 9, 3] = true := by kernel_rfl
set_option maxRecDepth 100000 in
set_option maxHeartbeats 8000000 in
theorem ac_core {Q : Exit → Act → World → Prop} (W : World) (q z : Nat) (aw : Option Addr) (nw cw : Nat) (a2 : Option Addr) (n2 c2 : Nat) (F : Bool) (a0 : Act) (hs0 : a0.tmps.size = 10) (eY0 : a0.eval (.tmp 0) = .pointer (some ⟨q, 0, none⟩)) (eY1 : a0.eval (.tmp 1) = .pointer (some ⟨z, 0, none⟩))
    (h4 : W.cell? ⟨q, 4, none⟩ = some (.slice aw nw cw)) (h0 : W.cell? ⟨z, 0, none⟩ = some (.slice a2 n2 c2))
    (he : ∀ X, Below W.heap.size W X → Calls Try.prog 68 #[.slice aw nw cw, .slice a2 n2 c2] X fun e X' => e = .returned (.bool F) ∧ Below X.heap.size X X')
    (fin : ∀ a X, EInv a0 W 7 (fun i => [4, 5, 6, 7, 8, 9, 3].getD i 0) (acT q z aw nw cw a2 n2 c2 F) (fun _ => True) a X → Q .normal a X) :
    (Code.region 1 acOps true).wp Try.prog Q a0 W := by
  refine wp_region_guard (by kernel_rfl) a0 W 7 (fun i => [4, 5, 6, 7, 8, 9, 3].getD i 0) (acT q z aw nw cw a2 n2 c2 F) rfl (fun _ _ _ _ h hb => acT_below q z aw nw cw a2 n2 c2 F hb h) (by decide) (fun i hi => by rw [hs0]; exact (show ∀ i, i < 7 → [4, 5, 6, 7, 8, 9, 3].getD i 0 < 10 by decide) i hi) (hdG_of ac_ok) ?_ fin
  intro j o ho a X E haft KK hKK
  have hj : j < 7 := (Array.getElem?_eq_some_iff.1 ho).1
  have hsz : a.tmps.size = 10 := E.sz.trans hs0
  have fY0 : a.eval (.tmp 0) = .pointer (some ⟨q, 0, none⟩) := (E.ag 0 (by decide)).trans eY0
  have fY1 : a.eval (.tmp 1) = .pointer (some ⟨z, 0, none⟩) := (E.ag 1 (by decide)).trans eY1
  have r := Below.refl X.heap.size X
  have bl := E.bl
  clear E fin
  rcases (by omega : j = 0 ∨ j = 1 ∨ j = 2 ∨ j = 3 ∨ j = 4 ∨ j = 5 ∨ j = 6) with rfl | rfl | rfl | rfl | rfl | rfl | rfl
  · obtain rfl : ac0 = o := Option.some.inj ho
    refine wpOp_on ho (wanted_none rfl) ?_
    exact wp_valueZ (v := .pointer (some ⟨q, 0, none⟩)) (w' := X) (by simp [execOp, ac0, fY0]) (hKK _ _ r rfl)
  · obtain rfl : ac1 = o := Option.some.inj ho
    refine wpOp_on ho (wanted_none rfl) ?_
    have d0 : a.eval (.tmp 4) = .pointer (some ⟨q, 0, none⟩) := haft ⟨0, .data⟩ (by simp [ac1]) rfl
    exact wp_valueZ (v := .pointer (some ⟨q, 0, none⟩)) (w' := X) (by simp [execOp, ac1, d0]) (hKK _ _ r rfl)
  · obtain rfl : ac2 = o := Option.some.inj ho
    refine wpOp_on ho (wanted_none rfl) ?_
    have d0 : a.eval (.tmp 5) = .pointer (some ⟨q, 0, none⟩) := haft ⟨1, .data⟩ (by simp [ac2]) rfl
    exact wp_valueZ (v := .pointer (some ⟨q, 4, none⟩)) (w' := X) (by simp [execOp, ac2, d0, fldL2]) (hKK _ _ r rfl)
  · obtain rfl : ac3 = o := Option.some.inj ho
    refine wpOp_on ho (wanted_none rfl) ?_
    have d0 : a.eval (.tmp 6) = .pointer (some ⟨q, 4, none⟩) := haft ⟨2, .data⟩ (by simp [ac3]) rfl
    have q := (bl.cell (p := ⟨q, 4, none⟩) (World.block_lt_of_cell? W _ h4)).trans h4
    exact wp_valueZ (v := .slice aw nw cw) (w' := X) (by simp [execOp, ac3, d0, ldRi q]) (hKK _ _ r rfl)
  · obtain rfl : ac4 = o := Option.some.inj ho
    refine wpOp_on ho (wanted_none rfl) ?_
    have q := (bl.cell (p := ⟨z, 0, none⟩) (World.block_lt_of_cell? W _ h0)).trans h0
    exact wp_valueZ (v := .slice a2 n2 c2) (w' := X) (by simp [execOp, ac4, fY1, ldRi q]) (hKK _ _ r rfl)
  · obtain rfl : ac5 = o := Option.some.inj ho
    refine wpOp_on ho (wanted_none rfl) ?_
    have d3 : a.eval (.tmp 7) = .slice aw nw cw := haft ⟨3, .data⟩ (by simp [ac5]) rfl
    have d4 : a.eval (.tmp 8) = .slice a2 n2 c2 := haft ⟨4, .data⟩ (by simp [ac5]) rfl
    refine wp_enterZ (run_call2Z rfl (enters_of Try.func68 (by kernel_rfl) rfl) d3 d4) (he X bl) ?_
    rintro e X' ⟨rfl, hb⟩
    exact ⟨_, rfl, hKK _ _ hb rfl⟩
  · obtain rfl : ac6 = o := Option.some.inj ho
    refine wpOp_on ho (wanted_none rfl) ?_
    have d0 : a.eval (.tmp 9) = .bool F := haft ⟨5, .data⟩ (by simp [ac6]) rfl
    exact wp_valueZ (v := .bool F) (w' := X) (by simp [execOp, ac6, d0]) (hKK _ _ r rfl)
set_option maxRecDepth 100000 in
set_option maxHeartbeats 8000000 in
theorem ac_region {Q : Exit → Act → World → Prop} (W : World) (q z : Nat) (aw : Option Addr) (nw cw : Nat) (a2 : Option Addr) (n2 c2 : Nat) (F : Bool) (ds : List Deferred) (t2 t3 t4 t5 t6 t7 t8 t9 : Value)
    (h4 : W.cell? ⟨q, 4, none⟩ = some (.slice aw nw cw)) (h0 : W.cell? ⟨z, 0, none⟩ = some (.slice a2 n2 c2))
    (he : ∀ X, Below W.heap.size W X → Calls Try.prog 68 #[.slice aw nw cw, .slice a2 n2 c2] X fun e X' => e = .returned (.bool F) ∧ Below X.heap.size X X')
    (fin : ∀ X (u4 u5 u6 u7 u8 u9 : Value), Below W.heap.size W X → Q .normal ⟨#[.pointer (some ⟨q, 0, none⟩), .pointer (some ⟨z, 0, none⟩), t2, .bool F, u4, u5, u6, u7, u8, u9], ds⟩ X) :
    (Code.region 1 acOps true).wp Try.prog Q ⟨#[.pointer (some ⟨q, 0, none⟩), .pointer (some ⟨z, 0, none⟩), t2, t3, t4, t5, t6, t7, t8, t9], ds⟩ W := by
  obtain ⟨a0, ha0⟩ : ∃ a0 : Act, a0 = ⟨#[.pointer (some ⟨q, 0, none⟩), .pointer (some ⟨z, 0, none⟩), t2, t3, t4, t5, t6, t7, t8, t9], ds⟩ := ⟨_, rfl⟩
  have hs0 : a0.tmps.size = 10 := by rw [ha0]; rfl
  have hd0 : a0.defers = ds := by rw [ha0]
  have gY0 : a0.eval (.tmp 0) = .pointer (some ⟨q, 0, none⟩) := by rw [ha0]; rfl
  have gY1 : a0.eval (.tmp 1) = .pointer (some ⟨z, 0, none⟩) := by rw [ha0]; rfl
  have gY2 : a0.eval (.tmp 2) = t2 := by rw [ha0]; rfl
  rw [← ha0]
  refine ac_core W q z aw nw cw a2 n2 c2 F a0 hs0 gY0 gY1 h4 h0 he ?_
  clear ha0
  intro a X E
  have hq := fin X (a.eval (.tmp 4)) (a.eval (.tmp 5)) (a.eval (.tmp 6)) (a.eval (.tmp 7)) (a.eval (.tmp 8)) (a.eval (.tmp 9)) E.bl 
  have ea : a = ⟨#[a.eval (.tmp 0), a.eval (.tmp 1), a.eval (.tmp 2), a.eval (.tmp 3), a.eval (.tmp 4), a.eval (.tmp 5), a.eval (.tmp 6), a.eval (.tmp 7), a.eval (.tmp 8), a.eval (.tmp 9)], a.defers⟩ := act_eta a 10 (E.sz.trans hs0)
  rw [ea, E.df, hd0]
  have kY0 : a.eval (.tmp 0) = .pointer (some ⟨q, 0, none⟩) := (E.ag 0 (by decide)).trans gY0
  have kY1 : a.eval (.tmp 1) = .pointer (some ⟨z, 0, none⟩) := (E.ag 1 (by decide)).trans gY1
  have kY2 : a.eval (.tmp 2) = t2 := (E.ag 2 (by decide)).trans gY2
  have kY3 : a.eval (.tmp 3) = .bool F := E.vs 6 (by decide) trivial
  rw [kY0, kY1, kY2, kY3]
  exact hq

end Go.Proofs.Ytlcablkhomnieaa

/-
  The program's tree: a state more, a node more, a leaf moved.
-/
namespace Go.Proofs.Ytlcablkhomnieaa
set_option linter.unusedVariables false
open Go.RowKit

/-- word.Join of one word, of two. -/
theorem join1_any (a : Option Addr) (c : Nat) (l : List Int) (g : Nat) (w : World) (hg : w.cell? ⟨g, 0, none⟩ = some (.slice a l.length c)) (hr : RdL .i64 w a l) (hn : a = none → l.length = 0 ∧ c = 0) (hl : l.length ≤ 200000) :
    Calls Try.prog 41 #[.slice (some ⟨g, 0, none⟩) 1 1] w fun e w' => ∃ a' c', e = .returned (.slice a' l.length c') ∧ OwnL .i64 3 w' w.heap.size (.slice a' l.length c') l ∧ Below w.heap.size w w' := by
  have r2 : RdV w (some ⟨g, 0, none⟩) 1 (fun _ => .slice a l.length c) := .inr ⟨_, _, rfl, fun i hi => by
    obtain rfl : i = 0 := by omega
    exact hg⟩
  refine (joinL_any (some ⟨g, 0, none⟩) 1 1 (fun _ => .slice a l.length c) (fun _ => l) (fun _ => c) (fun _ => a) w r2 (by omega) (fun i hi => ⟨rfl, hr, hn, hl⟩)).mono ?_
  rintro e w' ⟨v, rfl, hv, hb⟩
  have hv' : OwnL .i64 3 w' w.heap.size v l := hv
  obtain ⟨a', c', rfl, -⟩ := hv'.shape
  exact ⟨a', c', rfl, hv', hb⟩
theorem join2_any (a : Option Addr) (c : Nat) (l : List Int) (a2 : Option Addr) (c2 : Nat) (l2 : List Int) (g : Nat) (w : World) (hg : w.cell? ⟨g, 0, none⟩ = some (.slice a l.length c)) (hg2 : w.cell? ⟨g, 1, none⟩ = some (.slice a2 l2.length c2)) (hr : RdL .i64 w a l) (hn : a = none → l.length = 0 ∧ c = 0) (hl : l.length ≤ 200000)
    (hr2 : RdL .i64 w a2 l2) (hn2 : a2 = none → l2.length = 0 ∧ c2 = 0) (hl2 : l2.length ≤ 200000) :
    Calls Try.prog 41 #[.slice (some ⟨g, 0, none⟩) 2 2] w fun e w' => ∃ a' c', e = .returned (.slice a' (l ++ l2).length c') ∧ OwnL .i64 3 w' w.heap.size (.slice a' (l ++ l2).length c') (l ++ l2) ∧ Below w.heap.size w w' := by
  have r2 : RdV w (some ⟨g, 0, none⟩) 2 (fun i => if i = 0 then .slice a l.length c else .slice a2 l2.length c2) := .inr ⟨_, _, rfl, fun i hi => by
    rcases (by omega : i = 0 ∨ i = 1) with rfl | rfl
    · exact hg
    · exact hg2⟩
  refine (joinL_any (some ⟨g, 0, none⟩) 2 2 _ (fun i => if i = 0 then l else l2) (fun i => if i = 0 then c else c2) (fun i => if i = 0 then a else a2) w r2 (by omega) (fun i hi => by
    rcases (by omega : i = 0 ∨ i = 1) with rfl | rfl
    · exact ⟨rfl, hr, hn, hl⟩
    · exact ⟨rfl, hr2, hn2, hl2⟩)).mono ?_
  rintro e w' ⟨v, rfl, hv, hb⟩
  have hv' : OwnL .i64 3 w' w.heap.size v (l ++ l2) := hv
  obtain ⟨a', c', rfl, -⟩ := hv'.shape
  exact ⟨a', c', rfl, hv', hb⟩
section
variable {B : Nat} {w w' : World} {p : Tp} {s : Tr}
/-- What a call that makes the tree grow leaves. -/
def MkP (B : Nat) (p : Tp) (s s' : Tr) (v : Tp → Value) (w : World) (e : Ending) (w' : World) : Prop :=
  ∃ p', e = .returned (v p') ∧ TM B w' p' s' ∧ Bx (p.has s) w w' ∧ GwT p p' s s' w.heap.size ∧ p'.b = p.b ∧ (∀ i, i < s.nn → p'.ib i = p.ib i ∧ p'.sz i ≤ p.sz i + 1) ∧ (∀ i, s.nn ≤ i → i < s'.nn → p'.sz i = 0) ∧ (∀ j, j < s.nl → p'.fb j = p.fb j) ∧ p'.sa = p.sa ∧ p'.sc = p.sc
set_option maxRecDepth 100000 in
set_option maxHeartbeats 4000000 in
theorem makeNode_any (h : TM B w p s) (K : s.Ok) (up : Option Nat) (an : List Int) (pa : Pth) (a : Option Addr) (c : Nat) (l : List Int) (hr : RdL .i64 w a l) (hn : a = none → l.length = 0 ∧ c = 0) (hl : l.length ≤ 200000)
    (hup : ∀ u, up = some u → u < s.nn ∧ p.sz u < maxLen) (ha : okS an) (hB : B ≤ w.heap.size) :
    Calls Try.prog 55 #[.pointer (some ⟨p.b, 0, none⟩), spV p up an pa.length, .slice a l.length c] w (MkP B p s (s.inner up an pa l) (fun p' => .pointer (some ⟨p'.ib s.nn, 0, none⟩)) w) := by
  have hsp : spV p up an pa.length = .agg #[.pointer (up.map fun i => ⟨p.ib i, 0, none⟩), .string (sp an), .int .i64 (pa.length : Int)] := rfl
  rw [hsp]
  clear hsp
  have Z := hide (Bk.new w [.pointer (up.map fun i => ⟨p.ib i, 0, none⟩), .string (sp an), .int .i64 (pa.length : Int)] 89)
  have HB := hide (ballo w (.cells #[.pointer (up.map fun i => ⟨p.ib i, 0, none⟩), .string (sp an), .int .i64 (pa.length : Int)] 89))
  change Hid (Bk (w.alloc (.cells #[.pointer (up.map fun i => ⟨p.ib i, 0, none⟩), .string (sp an), .int .i64 (pa.length : Int)] 89)) _ _ _) at Z
  have HH := hide h
  have HR := hide hr
  clear h hr
  go_enter Try.func55, Try.ntmps55
  go_wp2
  generalize w.alloc (.cells #[.pointer (up.map fun i => ⟨p.ib i, 0, none⟩), .string (sp an), .int .i64 (pa.length : Int)] 89) = X at *
  refine mn_region X X.heap.size w.heap.size _ _ _ a c l _ _ _ _ _ _ _ _ _ _ _ _ _ _ _ _ _ _ _ (unhide Z) rfl (fun wx g hx hg => join1_any a c l g wx hg ((unhide HR).below (bstep (unhide HB) hx)) hn hl) ?_
  intro X2 u8 u9 u10 u11 u12 u13 u14 u7 hX ⟨g, a1, c1, m, e7, hg, hbk, hm, hmp, hown⟩
  subst e7
  have hbx := bstep (unhide HB) hX
  have z1 := (unhide HB).size
  have HM0 := TM.moreN (unhide HH) K hbx ⟨up, an, pa, l⟩ (fun u e => (hup u e).1) (g := g) (m := m) (wa := a1) (wc := c1) (by omega) (by omega) hB hbk (hown.mono (by omega)) hmp
  obtain ⟨p1, hp1⟩ : ∃ p1, p1 = ({ p with ib := updV p.ib s.nn g, mb := updV p.mb s.nn m, sz := updV p.sz s.nn 0, wa := updV p.wa s.nn a1, wc := updV p.wc s.nn c1 } : Tp) := ⟨_, rfl⟩
  obtain ⟨s1, hs1⟩ : ∃ s1, s1 = ({ s with nn := s.nn + 1, nd := updV s.nd s.nn ⟨up, an, pa, l⟩, ch := updV s.ch s.nn fun _ => none } : Tr) := ⟨_, rfl⟩
  rw [← hp1, ← hs1] at HM0
  have e1 : s1.upN (.inl s.nn) = up := by rw [hs1]; simp only [Tr.upN, updV_same]
  have e2 : s1.anN (.inl s.nn) = an := by rw [hs1]; simp only [Tr.anN, updV_same]
  have e3 : p1.ndV (.inl s.nn) = .iface 86 (.pointer (some ⟨g, 0, none⟩)) := by rw [hp1]; simp only [Tp.ndV, updV_same]
  have e4 : p1.b = p.b := by rw [hp1]
  have hh := hang_any HM0 (.inl s.nn) (show s.nn < s1.nn by rw [hs1]; exact Nat.lt_succ_self _) (fun u e => by
    rw [e1] at e
    obtain ⟨q1, q2⟩ := hup u e
    refine ⟨by rw [hs1]; show u < s.nn + 1; omega, ?_⟩
    rw [hp1]
    show updV p.sz s.nn 0 u < _
    rw [updV_ne (by omega)]; exact q2) (by rw [e2]; exact ha)
  rw [e3, e4] at hh
  have HF : Hid (∀ w', TM B w' (p1.hang s1 (.inl s.nn)) (s1.hang (.inl s.nn)) → Bx (p1.has s1) X2 w' → MkP B p s (s.inner up an pa l) (fun p' => .pointer (some ⟨p'.ib s.nn, 0, none⟩)) w (.returned (.pointer (some ⟨g, 0, none⟩))) w') := hide fun w' hT hX2 => by
    have hgw : ∀ k, p1.has s1 k → p.has s k ∨ w.heap.size ≤ k := fun k hk => by
      rw [hp1, hs1] at hk
      rcases hk with hk | hk | ⟨i, hi, hk⟩ | ⟨j, hj, hk⟩
      · exact .inl (.inl hk)
      · exact .inl (.inr (.inl hk))
      · have hi' : i < s.nn + 1 := hi
        have hk' : k = updV p.mb s.nn m i := hk
        by_cases c : i = s.nn
        · rw [c, updV_same] at hk'; right; omega
        · rw [updV_ne c] at hk'; exact .inl (.inr (.inr (.inl ⟨i, by omega, hk'⟩)))
      · exact .inl (.inr (.inr (.inr ⟨j, hj, hk⟩)))
    have e5 : s1.hang (.inl s.nn) = s.inner up an pa l := by rw [hs1]; rfl
    rw [e5] at hT
    refine ⟨p1.hang s1 (.inl s.nn), by show _ = Ending.returned (.pointer (some ⟨p1.ib s.nn, 0, none⟩)); rw [hp1]; simp only [updV_same], hT, ?_, fun k hk => ?_, e4, fun i hi => ⟨?_, ?_⟩, fun i h1 h2 => ?_, fun j hj => by show p1.fb j = _; rw [hp1], by show p1.sa = _; rw [hp1], by show p1.sc = _; rw [hp1]⟩
    · exact Bx.trans (Bx.of hbx) hX2 fun j hj hY => (hgw j hY).elim id fun e => by omega
    · have hk' : p1.has s1 k := by rw [← e5] at hk; exact hk
      exact hgw k hk'
    · show p1.ib i = _; rw [hp1]; exact updV_ne (by omega)
    · have h0 : p1.sz i = p.sz i := by rw [hp1]; exact updV_ne (by omega)
      show (p1.hang s1 (.inl s.nn)).sz i ≤ _
      unfold Tp.hang
      rw [e1]
      cases up with
      | none => show p1.sz i ≤ _; omega
      | some u =>
        show updV p1.sz u _ i ≤ _
        by_cases c : i = u
        · rw [c, updV_same, ← c, h0]; split <;> omega
        · rw [updV_ne c, h0]; omega
    · have h2' : i < s.nn + 1 := h2
      obtain rfl : i = s.nn := by omega
      have h0 : p1.sz s.nn = 0 := by rw [hp1]; exact updV_same _ _ _
      show (p1.hang s1 (.inl s.nn)).sz s.nn = 0
      unfold Tp.hang
      rw [e1]
      cases up with
      | none => exact h0
      | some u =>
        show updV p1.sz u _ s.nn = _
        have := (hup u rfl).1
        rw [updV_ne (by omega)]; exact h0
  clear HM0 e1 e2 e3 e4 hp1 hs1 hmp hown hbk HR HH K
  go_wp2_with (go_at_call 64; refine hh.mono ?_; rintro e w9 ⟨rfl, hT9, hX9⟩)
  go_ret
  exact unhide HF _ hT9 hX9
theorem TM.lvb (h : TM B w p s) : some p.b ≠ (Value.slice p.lv s.nl p.lc).ownBlock := fun e => by
  obtain ⟨cs, q⟩ := ownG_ty h.lv e.symm
  exact bk_ne h.o q (by decide) rfl
set_option maxRecDepth 100000 in
set_option maxHeartbeats 4000000 in
theorem makeState_any (h : TM B w p s) (K : s.Ok) (up : Option Nat) (an : List Int) (pa : Pth) (a : Option Addr) (c : Nat) (l : List Int) (hr : RdL .i64 w a l) (hn : a = none → l.length = 0 ∧ c = 0) (hl : l.length ≤ 200000)
    (hup : ∀ u, up = some u → u < s.nn ∧ p.sz u < maxLen) (ha : okS an) (hB : B ≤ w.heap.size) (hnl : s.nl ≤ 100000) :
    Calls Try.prog 39 #[.pointer (some ⟨p.b, 0, none⟩), spV p up an pa.length, .slice a l.length c] w (MkP B p s (s.leaf up an pa l) (fun p' => .pointer (some ⟨p'.fb s.nl, 0, none⟩)) w) := by
  have hsp : spV p up an pa.length = .agg #[.pointer (up.map fun i => ⟨p.ib i, 0, none⟩), .string (sp an), .int .i64 (pa.length : Int)] := rfl
  rw [hsp]
  clear hsp
  have Z := hide (Bk.new w [.pointer (up.map fun i => ⟨p.ib i, 0, none⟩), .string (sp an), .int .i64 (pa.length : Int)] 89)
  have HB := hide (ballo w (.cells #[.pointer (up.map fun i => ⟨p.ib i, 0, none⟩), .string (sp an), .int .i64 (pa.length : Int)] 89))
  change Hid (Bk (w.alloc (.cells #[.pointer (up.map fun i => ⟨p.ib i, 0, none⟩), .string (sp an), .int .i64 (pa.length : Int)] 89)) _ _ _) at Z
  have HH := hide h
  have HR := hide hr
  clear h hr
  go_enter Try.func39, Try.ntmps39
  go_wp2
  generalize w.alloc (.cells #[.pointer (up.map fun i => ⟨p.ib i, 0, none⟩), .string (sp an), .int .i64 (pa.length : Int)] 89) = X at *
  have c4 := ((unhide HH).below (unhide HB)).c4
  refine ms_region X X.heap.size p.b s.nl w.heap.size _ _ _ p.lv p.lc a c l _ _ _ _ _ _ _ _ _ _ _ _ _ _ _ _ _ _ _ _ _ _ _ _ _ _ _ _ _ _ _ _ (unhide Z) c4 rfl (fun wx g hx hg => join1_any a c l g wx hg ((unhide HR).below (bstep (unhide HB) hx)) hn hl) ?_
  intro X2 u8 u9 u10 u11 u12 u13 u14 u15 u16 u17 u18 u7 hX ⟨g, a1, c1, e7, hg, hbk, hown⟩
  subst e7
  clear c4
  have hbx := bstep (unhide HB) hX
  have z1 := (unhide HB).size
  have H2 := (unhide HH).below hbx
  have c4 := H2.c4
  have fz := H2.frz
  have HX2 := hide H2
  have HBX := hide hbx
  have HBK := hide hbk
  have HOW := hide hown
  clear hbk hown H2 HR
  go_wp2_with (first
    | (at_builtin; refine wplG_push ePt rfl (.tmp 23) (.tmp 25) rfl B (.slice p.lv s.nl p.lc) ((List.range s.nl).map p.fb) rfl ((unhide HX2).lv.below (ballo _ (.cells #[.pointer (some ⟨g, 0, none⟩)] 84))) X2.heap.size 1 g rfl (fun j u hj => ((Bk.new X2 (ptE g) 84).cell j).trans hj) (by simp; omega) (by simp; unfold maxLen; omega) (by have := (unhide HBX).size; simp; omega) ?_; intro v' w4 ho4 hg4 hat4; obtain ⟨lv', lc', e4⟩ := ho4.shape; rw [show ((List.range s.nl).map p.fb ++ [g]).length = s.nl + 1 by simp] at e4; subst e4
       have o4 : Bk w4 p.b (trC p s) 83 := (hg4.block _ (by have := (unhide HX2).o.lt; simp; omega) (unhide HX2).lvb).trans ((unhide HX2).o.below (ballo _ _))
       have k4 : _ = some (Value.slice p.lv s.nl p.lc) := o4.cell 4
       have f4 := o4.frz 4
       have HO4 := hide o4
       have HG4 := hide hg4
       have HL4 := hide ho4
       have HA4 := hide hat4
       clear o4 hg4 ho4 hat4)
    | fail)
  have H2 := unhide HX2
  have hpl := H2.o.lt
  have hp0 := (unhide HH).o.lt
  have hz2 := (unhide HBX).size
  have hk5 : ∀ k, k < X2.heap.size → k ≠ p.b → obT p.lv ≠ some k → (w4.setCell ⟨p.b, 4, none⟩ (.slice lv' (s.nl + 1) lc')).heap[k]? = X2.heap[k]? := fun k h1 h2 h3 =>
    (Below.heap_setCell _ _ _ k h2).trans (((unhide HG4).block k (by simp; omega) (by rw [obS]; exact fun e => h3 e.symm)).trans ((ballo X2 (.cells #[.pointer (some ⟨g, 0, none⟩)] 84)).block k h1))
  have hlv : ∀ k, obT p.lv = some k → k < w.heap.size := fun k e => ((unhide HH).lv.lt (by rw [obS]; exact e)).2
  have hfr : ∀ k, w.heap.size ≤ k → k ≠ p.b ∧ obT p.lv ≠ some k := fun k hk => ⟨by omega, fun e => by have := hlv k e; omega⟩
  have hgl := (unhide HBK).lt
  have HM0 := TM.moreL (w' := w4.setCell ⟨p.b, 4, none⟩ (.slice lv' (s.nl + 1) lc')) (unhide HH) K (fun k h1 h2 h3 => (hk5 k (by omega) h2 h3).trans ((unhide HBX).block k h1)) ⟨up, an, pa, l⟩ (fun u e => (hup u e).1) (g := g) (fa := a1) (fc := c1) (lv := lv') (lc := lc') ((unhide HO4).set 4 _) (by omega)
    ((hk5 g hgl (hfr g (by omega)).1 (hfr g (by omega)).2).trans (unhide HBK)) (((unhide HOW).keep fun b e => hk5 b ((unhide HOW).lt e).2 (hfr b (by have := ((unhide HOW).lt e).1; omega)).1 (hfr b (by have := ((unhide HOW).lt e).1; omega)).2).mono (by omega))
    ((unhide HL4).keep fun b e => by
      obtain ⟨cs, q⟩ := ownG_ty (unhide HL4) e
      exact Below.heap_setCell _ _ _ b (bk_ne (unhide HO4) q (by decide)))
  have HB5 : Bx (p.has s) w (w4.setCell ⟨p.b, 4, none⟩ (.slice lv' (s.nl + 1) lc')) := ((Bx.of (X := p.has s) (bstep (unhide HBX) (ballo X2 (.cells #[.pointer (some ⟨g, 0, none⟩)] 84)))).grown (unhide HG4) (fun k e _ => .inr (.inl (by rw [obS] at e; exact e)))).setCell (p := ⟨p.b, 4, none⟩) (.inl rfl) _
  have HSZ : w.heap.size ≤ (w4.setCell ⟨p.b, 4, none⟩ (.slice lv' (s.nl + 1) lc')).heap.size := HB5.size
  have hA4 : ∀ k, obT lv' = some k → obT p.lv = some k ∨ w.heap.size ≤ k := fun k e => by
    rcases unhide HA4 k (by rw [obS]; exact e) with q | q
    · left; rw [obS] at q; exact q
    · right; rw [World.size_alloc] at q; omega
  obtain ⟨p1, hp1⟩ : ∃ p1, p1 = ({ p with lv := lv', lc := lc', fb := updV p.fb s.nl g, fa := updV p.fa s.nl a1, fc := updV p.fc s.nl c1 } : Tp) := ⟨_, rfl⟩
  obtain ⟨s1, hs1⟩ : ∃ s1, s1 = ({ s with nl := s.nl + 1, lf := updV s.lf s.nl ⟨up, an, pa, l⟩ } : Tr) := ⟨_, rfl⟩
  rw [← hp1, ← hs1] at HM0
  have e1 : s1.upN (.inr s.nl) = up := by rw [hs1]; simp only [Tr.upN, updV_same]
  have e2 : s1.anN (.inr s.nl) = an := by rw [hs1]; simp only [Tr.anN, updV_same]
  have e3 : p1.ndV (.inr s.nl) = .iface 84 (.pointer (some ⟨g, 0, none⟩)) := by rw [hp1]; simp only [Tp.ndV, updV_same]
  have e4 : p1.b = p.b := by rw [hp1]
  have hh := hang_any HM0 (.inr s.nl) (show s.nl < s1.nl by rw [hs1]; exact Nat.lt_succ_self _) (fun u e => by
    rw [e1] at e
    obtain ⟨q1, q2⟩ := hup u e
    refine ⟨by rw [hs1]; exact q1, ?_⟩
    rw [hp1]; exact q2) (by rw [e2]; exact ha)
  rw [e3, e4] at hh
  have HF : Hid (∀ w', TM B w' (p1.hang s1 (.inr s.nl)) (s1.hang (.inr s.nl)) → Bx (p1.has s1) (w4.setCell ⟨p.b, 4, none⟩ (.slice lv' (s.nl + 1) lc')) w' → MkP B p s (s.leaf up an pa l) (fun p' => .pointer (some ⟨p'.fb s.nl, 0, none⟩)) w (.returned (.pointer (some ⟨g, 0, none⟩))) w') := hide fun w' hT hX2 => by
    have hgw : ∀ k, p1.has s1 k → p.has s k ∨ w.heap.size ≤ k := fun k hk => by
      rw [hp1, hs1] at hk
      rcases hk with hk | hk | ⟨i, hi, hk⟩ | ⟨j, hj, hk⟩
      · exact .inl (.inl hk)
      · exact (hA4 k hk).imp (fun q => .inr (.inl q)) id
      · exact .inl (.inr (.inr (.inl ⟨i, hi, hk⟩)))
      · have hj' : j < s.nl + 1 := hj
        have hk' : k = updV p.fb s.nl g j := hk
        by_cases c : j = s.nl
        · rw [c, updV_same] at hk'; right; omega
        · rw [updV_ne c] at hk'; exact .inl (.inr (.inr (.inr ⟨j, by omega, hk'⟩)))
    have e5 : s1.hang (.inr s.nl) = s.leaf up an pa l := by rw [hs1]; rfl
    rw [e5] at hT
    refine ⟨p1.hang s1 (.inr s.nl), by show _ = Ending.returned (.pointer (some ⟨p1.fb s.nl, 0, none⟩)); rw [hp1]; simp only [updV_same], hT, ?_, fun k hk => ?_, e4, fun i hi => ⟨by show p1.ib i = _; rw [hp1], ?_⟩, fun i h1 h2 => ?_, fun j hj => by show p1.fb j = _; rw [hp1]; exact updV_ne (by omega), by show p1.sa = _; rw [hp1], by show p1.sc = _; rw [hp1]⟩
    · exact Bx.trans HB5 hX2 fun j hj hY => (hgw j hY).elim id fun e => by omega
    · have hk' : p1.has s1 k := by rw [← e5] at hk; exact hk
      exact hgw k hk'
    · have h0 : p1.sz i = p.sz i := by rw [hp1]
      show (p1.hang s1 (.inr s.nl)).sz i ≤ _
      unfold Tp.hang
      rw [e1]
      cases up with
      | none => show p1.sz i ≤ _; omega
      | some u =>
        show updV p1.sz u _ i ≤ _
        by_cases c : i = u
        · rw [c, updV_same, ← c, h0]; split <;> omega
        · rw [updV_ne c, h0]; omega
    · have h2' : i < s.nn := h2
      omega
  clear HM0 e1 e2 e3 e4 hp1 hs1 H2 hk5 hlv hfr HB5 hA4 HH K HBK HOW HO4 HG4 HL4 HA4 HX2 k4 f4 c4 fz
  go_wp2_with (go_at_call 64; refine hh.mono ?_; rintro e w9 ⟨rfl, hT9, hX9⟩)
  go_ret
  exact unhide HF _ hT9 hX9
/-- What move leaves. -/
def MvP (B : Nat) (p : Tp) (s s' : Tr) (w : World) (e : Ending) (w' : World) : Prop :=
  ∃ p', (e = .returned (.tuple #[]) ∧ TM B w' p' s' ∧ Bx (p.has s) w w' ∧ GwT p p' s s' w.heap.size ∧ p'.b = p.b ∧ (∀ i, i < s.nn → p'.ib i = p.ib i ∧ p'.sz i ≤ p.sz i + 1) ∧ ∀ j, j < s.nl → p'.fb j = p.fb j) ∧ p'.lv = p.lv ∧ p'.lc = p.lc
set_option maxRecDepth 100000 in
set_option maxHeartbeats 4000000 in
theorem move_any (h : TM B w p s) (j : Nat) (hj : j < s.nl) (up : Option Nat) (an : List Int) (pa : Pth) (hup : ∀ u, up = some u → u < s.nn ∧ p.sz u < maxLen) (ha : okS an) :
    Calls Try.prog 56 #[.pointer (some ⟨p.b, 0, none⟩), .pointer (some ⟨p.fb j, 0, none⟩), spV p up an pa.length] w (MvP B p s (s.moved j up an pa) w) := by
  have hsp : spV p up an pa.length = .agg #[.pointer (up.map fun i => ⟨p.ib i, 0, none⟩), .string (sp an), .int .i64 (pa.length : Int)] := rfl
  rw [hsp]
  clear hsp
  have Z := hide (Bk.new w [.pointer (up.map fun i => ⟨p.ib i, 0, none⟩), .string (sp an), .int .i64 (pa.length : Int)] 89)
  have HB := hide (ballo w (.cells #[.pointer (up.map fun i => ⟨p.ib i, 0, none⟩), .string (sp an), .int .i64 (pa.length : Int)] 89))
  change Hid (Bk (w.alloc (.cells #[.pointer (up.map fun i => ⟨p.ib i, 0, none⟩), .string (sp an), .int .i64 (pa.length : Int)] 89)) _ _ _) at Z
  obtain ⟨X, hX⟩ : ∃ X, X = w.alloc (.cells #[.pointer (up.map fun i => ⟨p.ib i, 0, none⟩), .string (sp an), .int .i64 (pa.length : Int)] 89) := ⟨_, rfl⟩
  rw [← hX] at Z HB
  have HX := h.below (unhide HB)
  have q0 : _ = some (p.upV (s.lf j).up) := (HX.lf j hj).cell 0
  have q1 : _ = some (Value.string (sp (s.lf j).an)) := (HX.lf j hj).cell 1
  have q2 : _ = some (Value.int .i64 ((s.lf j).pa.length : Int)) := (HX.lf j hj).cell 2
  have g0 := (HX.lf j hj).frz 0
  have g1 := (HX.lf j hj).frz 1
  have g2 := (HX.lf j hj).frz 2
  have HHX := hide HX
  have HM := hide (HX.mvL hj up an pa)
  have HXB : Hid (Bx (p.has s) w (thr X (p.fb j) (p.upV up) (.string (sp an)) (.int .i64 (pa.length : Int)))) := hide ((((Bx.of (X := p.has s) (unhide HB)).setCell (p := ⟨p.fb j, 0, none⟩) (.inr (.inr (.inr ⟨j, hj, rfl⟩))) _).setCell (p := ⟨p.fb j, 1, none⟩) (.inr (.inr (.inr ⟨j, hj, rfl⟩))) _).setCell (p := ⟨p.fb j, 2, none⟩) (.inr (.inr (.inr ⟨j, hj, rfl⟩))) _)
  obtain ⟨s1, hs1⟩ : ∃ s1, s1 = ({ s with lf := updV s.lf j ⟨up, an, pa, (s.lf j).ac⟩ } : Tr) := ⟨_, rfl⟩
  have HM0 := unhide HM
  rw [← hs1] at HM0
  have e1 : s1.upN (.inr j) = up := by rw [hs1]; simp only [Tr.upN, updV_same]
  have e2 : s1.anN (.inr j) = an := by rw [hs1]; simp only [Tr.anN, updV_same]
  have hh := hang_any HM0 (.inr j) (show j < s1.nl by rw [hs1]; exact hj) (fun u e => by
    rw [e1] at e
    obtain ⟨q1, q2⟩ := hup u e
    exact ⟨by rw [hs1]; exact q1, q2⟩) (by rw [e2]; exact ha)
  have HF : Hid (∀ w', TM B w' (p.hang s1 (.inr j)) (s1.hang (.inr j)) → Bx (p.has s1) (thr X (p.fb j) (p.upV up) (.string (sp an)) (.int .i64 (pa.length : Int))) w' → MvP B p s (s.moved j up an pa) w (.returned (.tuple #[])) w') := hide fun w' hT hX2 => by
    have e5 : s1.hang (.inr j) = s.moved j up an pa := by rw [hs1]; rfl
    rw [e5] at hT
    have hgw : ∀ k, p.has s1 k → p.has s k := fun k hk => by rw [hs1] at hk; exact hk
    refine ⟨p.hang s1 (.inr j), ⟨rfl, hT, ?_, fun k hk => ?_, rfl, fun i hi => ⟨rfl, ?_⟩, fun i hi => rfl⟩, rfl, rfl⟩
    · exact Bx.trans (unhide HXB) hX2 fun k hk hY => hgw k hY
    · have hk' : p.has s1 k := by rw [← e5] at hk; exact hk
      exact .inl (hgw k hk')
    · show (p.hang s1 (.inr j)).sz i ≤ _
      unfold Tp.hang
      rw [e1]
      cases up with
      | none => show p.sz i ≤ _; omega
      | some u =>
        show updV p.sz u _ i ≤ _
        by_cases c : i = u
        · rw [c, updV_same]; split <;> omega
        · rw [updV_ne c]; omega
  rw [hX] at q0 q1 q2 g0 g1 g2
  clear HX h HM0 e1 e2 hs1
  go_enter Try.func56, Try.ntmps56
  go_wp2_with fail
  change Calls _ _ _ (thr (w.alloc (.cells #[.pointer (up.map fun i => ⟨p.ib i, 0, none⟩), .string (sp an), .int .i64 (pa.length : Int)] 89)) (p.fb j) (p.upV up) (.string (sp an)) (.int .i64 (pa.length : Int))) _
  rw [← hX]
  refine hh.mono ?_
  rintro e w9 ⟨rfl, hT9, hX9⟩
  clear q0 q1 q2 g0 g1 g2
  go_wp2
  go_end0
  exact unhide HF _ hT9 hX9
end

end Go.Proofs.Ytlcablkhomnieaa

/-
  The program's tree: Count, Depth, Leaf, Ask, Access; what nil objects answer.
-/
namespace Go.Proofs.Ytlcablkhomnieaa
set_option linter.unusedVariables false
open Go.RowKit

theorem tr_nil_sift (v : Value) (w : World) : Calls Try.prog 14 #[.pointer none, v] w fun e w' => e = .returned (.int .i64 5) ∧ w' = w := by
  go_enter Try.func14, Try.ntmps14
  go_wp2
  go_ret
  exact ⟨rfl, by trivial⟩
theorem tr_nil_tell (v : Value) (w : World) : Calls Try.prog 16 #[.pointer none, v] w fun e w' => e = .returned (.int .i64 5) ∧ w' = w := by
  go_enter Try.func16, Try.ntmps16
  go_wp2
  go_ret
  exact ⟨rfl, by trivial⟩
theorem tr_nil_split (v0 v1 v2 v3 v4 : Value) (w : World) : Calls Try.prog 18 #[.pointer none, v0, v1, v2, v3, v4] w fun e w' => e = .returned (.tuple #[.int .i64 0, .int .i64 5]) ∧ w' = w := by
  go_enter Try.func18, Try.ntmps18
  go_wp2
  go_ret2
  exact ⟨rfl, by trivial⟩
theorem tr_nil_ask (w : World) : Calls Try.prog 26 #[.pointer none] w fun e w' => e = .returned (.tuple #[.slice none 0 0, .bool false]) ∧ w' = w := by
  go_enter Try.func26, Try.ntmps26
  go_wp2
  go_ret2
  exact ⟨rfl, by trivial⟩
theorem tr_nil_leaf (w : World) : Calls Try.prog 27 #[.pointer none] w fun e w' => e = .returned (.tuple #[.int .i64 0, .bool false]) ∧ w' = w := by
  go_enter Try.func27, Try.ntmps27
  go_wp2
  go_ret2
  exact ⟨rfl, by trivial⟩
theorem tr_nil_access (v : Value) (w : World) : Calls Try.prog 22 #[.pointer none, v] w fun e w' => e = .returned (.tuple #[.slice none 0 0, .int .i64 5]) ∧ w' = w := by
  go_enter Try.func22, Try.ntmps22
  go_wp2
  go_ret2
  exact ⟨rfl, by trivial⟩
theorem tr_nil_common (v u : Value) (w : World) : Calls Try.prog 24 #[.pointer none, v, u] w fun e w' => e = .returned (.tuple #[.slice none 0 0, .int .i64 5]) ∧ w' = w := by
  go_enter Try.func24, Try.ntmps24
  go_wp2
  go_ret2
  exact ⟨rfl, by trivial⟩
theorem tr_nil_count (w : World) : Calls Try.prog 28 #[.pointer none] w fun e w' => e = .returned (.int .i64 0) ∧ w' = w := by
  go_enter Try.func28, Try.ntmps28
  go_wp2
  go_ret
  exact ⟨rfl, by trivial⟩
theorem tr_nil_depth (w : World) : Calls Try.prog 29 #[.pointer none] w fun e w' => e = .returned (.int .i64 0) ∧ w' = w := by
  go_enter Try.func29, Try.ntmps29
  go_wp2
  go_ret
  exact ⟨rfl, by trivial⟩
section
variable {B : Nat} {w w' : World} {p : Tp} {s : Tr}
theorem count_any (h : TM B w p s) : Calls Try.prog 28 #[.pointer (some ⟨p.b, 0, none⟩)] w fun e w' => e = .returned (.int .i64 (s.nl : Int)) ∧ w' = w := by
  have c4 := h.c4
  clear h
  go_enter Try.func28, Try.ntmps28
  go_wp2
  go_ret
  exact ⟨rfl, by trivial⟩
theorem depth_any (h : TM B w p s) : Calls Try.prog 29 #[.pointer (some ⟨p.b, 0, none⟩)] w fun e w' => e = .returned (.int .i64 (s.dep : Int)) ∧ w' = w := by
  have c5 := h.c5
  clear h
  go_enter Try.func29, Try.ntmps29
  go_wp2
  go_ret
  exact ⟨rfl, by trivial⟩
/-- What Leaf tells. -/
def lfV (r : Option Nat) : Value := .tuple #[.int .i64 ((r.getD 0 : Nat) : Int), .bool r.isSome]
set_option maxRecDepth 100000 in
set_option maxHeartbeats 2000000 in
theorem leaf_any (h : TM B w p s) (K : s.Ok) : Calls Try.prog 27 #[.pointer (some ⟨p.b, 0, none⟩)] w fun e w' => e = .returned (lfV s.leafT) ∧ w' = w := by
  have hw := where_any h
  have HH := hide h
  have HK := hide K
  clear h K
  unfold Tr.leafT
  cases hq : s.pos with
  | none =>
    rw [hq] at hw
    go_enter Try.func27, Try.ntmps27
    go_wp2_with fail
    refine hw.mono ?_
    rintro e w1 ⟨rfl, hw1⟩
    subst hw1
    unfold Tp.whV
    go_wp2
    go_ret2
    exact ⟨rfl, by trivial⟩
  | some n =>
    cases n with
    | inl i =>
      rw [hq] at hw
      go_enter Try.func27, Try.ntmps27
      go_wp2_with fail
      refine hw.mono ?_
      rintro e w1 ⟨rfl, hw1⟩
      subst hw1
      unfold Tp.whV
      go_wp2
      go_ret2
      exact ⟨rfl, by trivial⟩
    | inr j =>
      rw [hq] at hw
      have f3 := (unhide HH).f3 ((unhide HK).ps _ hq)
      go_enter Try.func27, Try.ntmps27
      go_wp2_with fail
      refine hw.mono ?_
      rintro e w1 ⟨rfl, hw1⟩
      subst hw1
      unfold Tp.whV
      go_wp2
      go_ret2
      exact ⟨rfl, by trivial⟩
/-- What Ask leaves. -/
def AkP (r : Option (List Int)) (w : World) (e : Ending) (w' : World) : Prop :=
  ∃ a c, e = .returned (.tuple #[.slice a (r.getD []).length c, .bool r.isSome]) ∧ OwnL .i64 3 w' w.heap.size (.slice a (r.getD []).length c) (r.getD []) ∧ Below w.heap.size w w'
theorem own_nil {B : Nat} {w : World} {a : Option Addr} {n c : Nat} {l : List Int} (h : OwnL .i64 3 w B (.slice a n c) l) : n = l.length ∧ (a = none → l.length = 0 ∧ c = 0) ∧ RdL .i64 w a l := by
  obtain ⟨a', c', e, h1, _, _, h2, _⟩ := h.shape
  injection e with e1 e2 e3
  subst e1 e3
  exact ⟨e2, h1, h2⟩
set_option maxRecDepth 100000 in
set_option maxHeartbeats 4000000 in
theorem ask_any (h : TM B w p s) (W : s.Wf) : Calls Try.prog 26 #[.pointer (some ⟨p.b, 0, none⟩)] w (AkP s.askT w) := by
  have hw := where_any h
  have HH := hide h
  have HK := hide W
  clear h W
  unfold Tr.askT
  cases hq : s.pos with
  | none =>
    rw [hq] at hw
    go_enter Try.func26, Try.ntmps26
    go_wp2_with fail
    refine hw.mono ?_
    rintro e w1 ⟨rfl, hw1⟩
    subst hw1
    unfold Tp.whV
    go_wp2
    go_ret2
    exact ⟨none, 0, rfl, OwnL.nil _ _ _ _, Below.refl _ _⟩
  | some n =>
    cases n with
    | inr i =>
      rw [hq] at hw
      go_enter Try.func26, Try.ntmps26
      go_wp2_with fail
      refine hw.mono ?_
      rintro e w1 ⟨rfl, hw1⟩
      subst hw1
      unfold Tp.whV
      go_wp2
      go_ret2
      exact ⟨none, 0, rfl, OwnL.nil _ _ _ _, Below.refl _ _⟩
    | inl i =>
      rw [hq] at hw
      have hi : i < s.nn := (unhide HK).ok.ps _ hq
      have c6 := (unhide HH).c6
      have n3 := (unhide HH).n3 hi
      obtain ⟨-, s1, s2⟩ := own_nil (unhide HH).sf
      obtain ⟨-, d1, d2⟩ := own_nil ((unhide HH).wd i hi)
      have hl1 := (unhide HK).si.1
      have hl2 := ((unhide HK).wd i hi).2.1
      go_enter Try.func26, Try.ntmps26
      go_wp2_with fail
      refine hw.mono ?_
      rintro e w1 ⟨rfl, hw1⟩
      subst hw1
      unfold Tp.whV
      go_wp2
      refine ak_region w1 w1.heap.size p.b (p.ib i) p.sa s.sif.length p.sc (p.wa i) (s.nd i).wd.length (p.wc i) (s.sif ++ (s.nd i).wd) _ _ _ _ _ _ _ _ _ _ _ _ _ _ _ _ _ _ _ _ _ _ _ _ c6 n3 rfl (fun X g hX h0 h1 => join2_any p.sa p.sc s.sif (p.wa i) (p.wc i) (s.nd i).wd g X h0 h1 (s2.below hX) s1 (by omega) (d2.below hX) d1 (by omega)) ?_
      rintro X u15 u16 u17 u18 u19 u20 u21 u22 u23 u24 u2 hX ⟨a1, c1, rfl, ho⟩
      have HP : Hid (AkP (some (s.sif ++ (s.nd i).wd)) w1 (.returned (.tuple #[.slice a1 (s.sif ++ (s.nd i).wd).length c1, .bool true])) X) := hide ⟨a1, c1, rfl, ho, hX⟩
      clear ho hX c6 n3 s2 d2
      generalize (s.sif ++ (s.nd i).wd).length = L at *
      go_wp2
      go_ret2
      exact unhide HP
/-- What a call that tells a word, and an error, leaves. -/
def AcP (l : List Int) (x : Int) (w : World) (e : Ending) (w' : World) : Prop :=
  ∃ a c, e = .returned (.tuple #[.slice a l.length c, .int .i64 x]) ∧ OwnL .i64 3 w' w.heap.size (.slice a l.length c) l ∧ Below w.heap.size w w'
set_option maxRecDepth 100000 in
set_option maxHeartbeats 4000000 in
theorem access_ok (h : TM B w p s) (W : s.Wf) (j : Nat) (hj : j < s.nl) : Calls Try.prog 22 #[.pointer (some ⟨p.b, 0, none⟩), .int .i64 (j : Int)] w (AcP (s.lf j).ac 0 w) := by
  have hh := has_any h (j : Int)
  rw [decide_eq_true (⟨by omega, by omega⟩ : (0 : Int) ≤ j ∧ (j : Int) < (s.nl : Int))] at hh
  have c4 := h.c4
  obtain ⟨g, e1, e2, e3, e4⟩ := h.at hj
  rw [e1] at c4
  have kj := e4 j hj
  have f4 := h.f4 hj
  have hjn : (j : Int) < (s.nl : Int) := by omega
  obtain ⟨-, s1, s2⟩ := own_nil (h.ac j hj)
  have hl := (W.ac j hj).2
  have HJ := hide (join1_any (p.fa j) (p.fc j) (s.lf j).ac w.heap.size (w.alloc (.cells #[.slice (p.fa j) (s.lf j).ac.length (p.fc j)] 29)) (by simp) (s2.below (ballo _ _)) s1 (by omega))
  clear h W e4 s2
  generalize (s.lf j).ac = l at *
  go_enter Try.func22, Try.ntmps22
  go_wp2_with (first | (go_at_call 60; refine hh.mono ?_; rintro e w1 ⟨rfl, hw1⟩; subst hw1) | fail)
  refine (unhide HJ).mono ?_
  rintro e w2 ⟨a', c', rfl, ho, hb⟩
  have HP : Hid (AcP l 0 w1 (.returned (.tuple #[.slice a' l.length c', .int .i64 0])) w2) := hide ⟨a', c', rfl, ho.mono (by simp), bstep (ballo _ _) hb⟩
  clear HJ ho hb
  generalize l.length = L at *
  go_wp2
  go_ret2
  exact unhide HP
set_option maxRecDepth 100000 in
theorem access_bad (h : TM B w p s) (x : Int) (hx : ¬ (0 ≤ x ∧ x < (s.nl : Int))) : Calls Try.prog 22 #[.pointer (some ⟨p.b, 0, none⟩), .int .i64 x] w (AcP [] 32 w) := by
  have hh := has_any h x
  rw [decide_eq_false hx] at hh
  clear h hx
  go_enter Try.func22, Try.ntmps22
  go_wp2_with (go_at_call 60; refine hh.mono ?_; rintro e w1 ⟨rfl, hw1⟩; subst hw1)
  go_ret2
  exact ⟨none, 0, rfl, OwnL.nil _ _ _ _, Below.refl _ _⟩
end

end Go.Proofs.Ytlcablkhomnieaa
