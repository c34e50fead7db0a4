/-
  Some texts of this seat, one behind the other.
-/
import Derived.Shelf.Abstract
import Derived.Test.YtepmdnggiajkbaaJAct
import Derived.Test.YtepmdnggiajkbaaK1
import Derived.Test.YtepmdnggiajkbaaK27
import Derived.Test.YtepmdnggiajkbaaK32
import Derived.Test.YtepmdnggiajkbaaK35
import Derived.Test.YtepmdnggiajkbaaK36
import Derived.Test.YtepmdnggiajkbaaK37
import Derived.Test.YtepmdnggiajkbaaOSt
/-
  Statements of the program's makeRow whose order is open.
-/
namespace Go.Proofs.Ytepmdnggiajkbaa
set_option linter.unusedVariables false
open Go.RowKit

theorem ldTb {w : World} {b k : Nat} {v : Value} (h : w.cell? ⟨b, k, none⟩ = some v) : (Instr.loadAt 23 (.pointer (some ⟨b, k, none⟩))).run Try.prog w = .ok v w := by
  go_simp
theorem ldLns {w : World} {b k : Nat} {v : Value} (h : w.cell? ⟨b, k, none⟩ = some v) : (Instr.loadAt 56 (.pointer (some ⟨b, k, none⟩))).run Try.prog w = .ok v w := by
  go_simp
theorem ldLi {w : World} {b k : Nat} {v : Value} (h : w.cell? ⟨b, k, none⟩ = some v) : (Instr.loadAt 57 (.pointer (some ⟨b, k, none⟩))).run Try.prog w = .ok v w := by
  go_simp
theorem fldT4 {w : World} {b : Nat} : (Instr.fieldAt 62 (.pointer (some ⟨b, 0, none⟩)) 4).run Try.prog w = .ok (.pointer (some ⟨b, 4, none⟩)) w := by go_simp
theorem fldT5 {w : World} {b : Nat} : (Instr.fieldAt 62 (.pointer (some ⟨b, 0, none⟩)) 5).run Try.prog w = .ok (.pointer (some ⟨b, 5, none⟩)) w := by go_simp
theorem fldT6 {w : World} {b : Nat} : (Instr.fieldAt 62 (.pointer (some ⟨b, 0, none⟩)) 6).run Try.prog w = .ok (.pointer (some ⟨b, 6, none⟩)) w := by go_simp
theorem fldT8 {w : World} {b : Nat} : (Instr.fieldAt 62 (.pointer (some ⟨b, 0, none⟩)) 8).run Try.prog w = .ok (.pointer (some ⟨b, 8, none⟩)) w := by go_simp
theorem fldL1 {w : World} {b k : Nat} : (Instr.fieldAt 54 (.pointer (some ⟨b, k, none⟩)) 1).run Try.prog w = .ok (.pointer (some ⟨b, k + 1, none⟩)) w := by go_simp
theorem idxLn {w : World} {b i L c : Nat} (h : i < L) : (Instr.indexAt 56 (.slice (some ⟨b, 0, none⟩) L c) (.int .i64 (i : Int))).run Try.prog w = .ok (.pointer (some ⟨b, i * 4, none⟩)) w := by
  have h1 : (i : Int) < (L : Int) := by omega
  go_simp
theorem stIn {w : World} {b k : Nat} {u : Value} (h : w.cell? ⟨b, k, none⟩ = some u) (hf : w.frozen? ⟨b, k, none⟩ = false) (x : Int) : (Instr.storeAt 3 (.pointer (some ⟨b, k, none⟩)) (.int .i64 x)).run Try.prog w = .ok () (w.setCell ⟨b, k, none⟩ (.int .i64 x)) := by
  go_simp
theorem stLi {w : World} {b k : Nat} {u : Value} (h : w.cell? ⟨b, k, none⟩ = some u) (hf : w.frozen? ⟨b, k, none⟩ = false) (a : Option Addr) (n c : Nat) : (Instr.storeAt 57 (.pointer (some ⟨b, k, none⟩)) (.slice a n c)).run Try.prog w = .ok () (w.setCell ⟨b, k, none⟩ (.slice a n c)) := by
  go_simp
theorem stLns {w : World} {b k : Nat} {u : Value} (h : w.cell? ⟨b, k, none⟩ = some u) (hf : w.frozen? ⟨b, k, none⟩ = false) (a : Option Addr) (n c : Nat) : (Instr.storeAt 56 (.pointer (some ⟨b, k, none⟩)) (.slice a n c)).run Try.prog w = .ok () (w.setCell ⟨b, k, none⟩ (.slice a n c)) := by
  go_simp
theorem run_litI {w : World} (P : Nat) : (Instr.buildSlice 57 1 #[(0, .int .i64 (P : Int))]).run Try.prog w = .ok (.slice (some ⟨w.heap.size, 0, none⟩) 1 1) (w.alloc (.cells #[.int .i64 (P : Int)] 3)) := by
  go_simp
theorem run_litL {w : World} (v0 v1 v2 v3 : Value) : (Instr.buildSlice 56 1 #[(0, .agg #[v0, v1, v2, v3])]).run Try.prog w = .ok (.slice (some ⟨w.heap.size, 0, none⟩) 1 1) (w.alloc (.cells #[v0, v1, v2, v3] 54)) := by
  go_simp
/-- A row, or its edges' place, is told of a line. -/
def Ts.sed (s : Ts) (i e : Nat) : Ts := { s with ls := s.ls.set i { s.ln i with ed := e } }
theorem To.sed {B : Nat} {w : World} {p : Tl} {s : Ts} (h : To B w p s) {i : Nat} (hi : i < s.ls.length) (e : Nat) : To B (w.setCell ⟨p.gl, i * 4 + 1, none⟩ (.int .i64 (e : Int))) p (s.sed i e) := by
  refine h.toLs _ (by simp) ?_ fun j b hj e => ?_
  · have := OwnG.set1 lnE_len ln0 h.ls (s := i) (i := 1) hi (by decide) (.int .i64 (e : Int)) { s.ln i with ed := e } rfl
    rw [List.length_set]; exact this
  · have hne : b ≠ p.gl := h.ne e (show p.bk 3 = some p.gl from rfl) hj
    rw [Below.heap_setCell _ _ _ _ hne]
/-- The object's blocks are as they were, but one: and that one, till it is written to. -/
def KeB (J : Nat) (W0 : World) (p : Tl) (b : Bool) (W : World) : Prop := KeO J W0 p W ∧ (b = false → KeO 99 W0 p W)
theorem KeB.start (J : Nat) (W0 : World) (p : Tl) : KeB J W0 p false W0.drew := ⟨(KeO.refl J W0 p).drew, fun _ => (KeO.refl 99 W0 p).drew⟩
theorem KeB.below {J : Nat} {W0 W W' : World} {p : Tl} {b : Bool} (h : KeB J W0 p b W) (hb : Below W.heap.size W W') (hl : ∀ i b, p.bk i = some b → b < W0.heap.size) : KeB J W0 p b W' := ⟨h.1.below hb hl, fun e => (h.2 e).below hb hl⟩

def kma0 : Oper := { dst := some 19, op := Op.load 23 (Operand.tmp 2), type := 23, pos := "line.go:51", after := #[], guard := none }
def kma1 : Oper := { dst := some 20, op := Op.nilCheck (Operand.tmp 19), type := 0, pos := "line.go:51", after := #[{ on := 0, ground := Ground.data }], guard := none }
def kma2 : Oper := { dst := some 21, op := Op.fieldAddr 62 (Operand.tmp 20) 4, type := 0, pos := "line.go:51", after := #[{ on := 1, ground := Ground.data }], guard := none }
def kma3 : Oper := { dst := some 22, op := Op.load 56 (Operand.tmp 21), type := 56, pos := "line.go:51", after := #[{ on := 2, ground := Ground.data }], guard := none }
def kma4 : Oper := { dst := some 23, op := Op.move (Operand.tmp 1), type := 3, pos := "line.go:51", after := #[], guard := none }
def kma5 : Oper := { dst := some 24, op := Op.load 23 (Operand.tmp 2), type := 23, pos := "line.go:51", after := #[], guard := none }
def kma6 : Oper := { dst := some 25, op := Op.nilCheck (Operand.tmp 24), type := 0, pos := "line.go:51", after := #[{ on := 5, ground := Ground.data }], guard := none }
def kma7 : Oper := { dst := some 26, op := Op.fieldAddr 62 (Operand.tmp 25) 4, type := 0, pos := "line.go:51", after := #[{ on := 6, ground := Ground.data }], guard := none }
def kma8 : Oper := { dst := some 27, op := Op.load 56 (Operand.tmp 26), type := 56, pos := "line.go:51", after := #[{ on := 7, ground := Ground.data }], guard := none }
def kma9 : Oper := { dst := some 28, op := Op.call { callee := Callee.builtin Builtin.len, args := #[Operand.tmp 27], argTypes := #[56] }, type := 3, pos := "line.go:51", after := #[{ on := 8, ground := Ground.data }], guard := none }
def kma10 : Oper := { dst := some 29, op := Op.indexAddr 56 (Operand.tmp 22) (Operand.tmp 23), type := 0, pos := "line.go:51", after := #[{ on := 3, ground := Ground.data }, { on := 4, ground := Ground.data }, { on := 0, ground := Ground.phase }, { on := 1, ground := Ground.phase }, { on := 2, ground := Ground.phase }, { on := 3, ground := Ground.phase }, { on := 4, ground := Ground.phase }, { on := 5, ground := Ground.phase }, { on := 6, ground := Ground.phase }, { on := 7, ground := Ground.phase }, { on := 8, ground := Ground.phase }, { on := 9, ground := Ground.phase }], guard := none }
def kma11 : Oper := { dst := some 30, op := Op.fieldAddr 54 (Operand.tmp 29) 1, type := 0, pos := "line.go:51", after := #[{ on := 10, ground := Ground.data }, { on := 0, ground := Ground.phase }, { on := 1, ground := Ground.phase }, { on := 2, ground := Ground.phase }, { on := 3, ground := Ground.phase }, { on := 4, ground := Ground.phase }, { on := 5, ground := Ground.phase }, { on := 6, ground := Ground.phase }, { on := 7, ground := Ground.phase }, { on := 8, ground := Ground.phase }, { on := 9, ground := Ground.phase }], guard := none }
def kma12 : Oper := { dst := none, op := Op.store 3 (Operand.tmp 30) (Operand.tmp 28), type := 0, pos := "line.go:51", after := #[{ on := 11, ground := Ground.data }, { on := 9, ground := Ground.data }, { on := 0, ground := Ground.phase }, { on := 1, ground := Ground.phase }, { on := 2, ground := Ground.phase }, { on := 3, ground := Ground.phase }, { on := 4, ground := Ground.phase }, { on := 5, ground := Ground.phase }, { on := 6, ground := Ground.phase }, { on := 7, ground := Ground.phase }, { on := 8, ground := Ground.phase }, { on := 9, ground := Ground.phase }], guard := none }
def kmaOps : Array Oper := #[kma0, kma1, kma2, kma3, kma4, kma5, kma6, kma7, kma8, kma9, kma10, kma11, kma12]

def kmaT (B : Nat) (p : Tl) (s : Ts) (bx P : Nat) : Nat → Value → World → Prop
  | 0, v, _ => v = .pointer (some ⟨p.b, 0, none⟩)
  | 1, v, _ => v = .pointer (some ⟨p.b, 0, none⟩)
  | 2, v, _ => v = .pointer (some ⟨p.b, 4, none⟩)
  | 3, v, _ => v = .slice (some ⟨p.gl, 0, none⟩) s.ls.length p.cl
  | 4, v, _ => v = .int .i64 (P : Int)
  | 5, v, _ => v = .pointer (some ⟨p.b, 0, none⟩)
  | 6, v, _ => v = .pointer (some ⟨p.b, 0, none⟩)
  | 7, v, _ => v = .pointer (some ⟨p.b, 4, none⟩)
  | 8, v, _ => v = .slice (some ⟨p.gl, 0, none⟩) s.ls.length p.cl
  | 9, v, _ => v = .int .i64 (s.ls.length : Int)
  | 10, v, _ => v = .pointer (some ⟨p.gl, P * 4, none⟩)
  | 11, v, _ => v = .pointer (some ⟨p.gl, P * 4 + 1, none⟩)
  | _, _, _ => True
set_option maxRecDepth 100000 in
set_option maxHeartbeats 1000000 in
theorem kma_ok : okS2 kmaOps [19, 20, 21, 22, 23, 24, 25, 26, 27, 28, 29, 30] = true := by kernel_rfl
theorem kmaT_below (B : Nat) (p : Tl) (s : Ts) (bx P : Nat) {v : Value} {W W' : World} (hb : Below W.heap.size W W') : ∀ {i : Nat}, kmaT B p s bx P i v W → kmaT B p s bx P i v W'
  | 0, h => h
  | 1, h => h
  | 2, h => h
  | 3, h => h
  | 4, h => h
  | 5, h => h
  | 6, h => h
  | 7, h => h
  | 8, h => h
  | 9, h => h
  | 10, h => h
  | 11, h => h
  | _ + 12, h => h
set_option maxRecDepth 100000 in
set_option maxHeartbeats 8000000 in
theorem kma_core {Q : Exit → Act → World → Prop} (W : World) (B : Nat) (p : Tl) (s : Ts) (bx P : Nat) (a0 : Act) (hs0 : a0.tmps.size = 113) (eY1 : a0.eval (.tmp 1) = .int .i64 (P : Int)) (eY2 : a0.eval (.tmp 2) = .pointer (some ⟨bx, 0, none⟩))
    (h : To B W p s) (hbx : W.cell? ⟨bx, 0, none⟩ = some (.pointer (some ⟨p.b, 0, none⟩))) (nbx : ¬ p.has bx) (hP : P < s.ls.length)
    (fin : ∀ a X, (a.tmps.size = a0.tmps.size ∧ a.defers = a0.defers ∧ ∀ t, (∀ j, j < 12 → [19, 20, 21, 22, 23, 24, 25, 26, 27, 28, 29, 30].getD j 0 ≠ t) → a.eval (.tmp t) = a0.eval (.tmp t)) → (fun Z => To B Z p (s.sed P s.ls.length) ∧ Bx p.has W Z) X → Q .normal a X) :
    (Code.region 2 kmaOps true).wp Try.prog Q a0 W := by
  refine wp_region_st (by kernel_rfl) a0 W 12 (fun i => [19, 20, 21, 22, 23, 24, 25, 26, 27, 28, 29, 30].getD i 0) (kmaT B p s bx P) 1000 (KeB 99 W p) (fun a X => (a.tmps.size = a0.tmps.size ∧ a.defers = a0.defers ∧ ∀ t, (∀ j, j < 12 → [19, 20, 21, 22, 23, 24, 25, 26, 27, 28, 29, 30].getD j 0 ≠ t) → a.eval (.tmp t) = a0.eval (.tmp t)) ∧ (fun Z => To B Z p (s.sed P s.ls.length) ∧ Bx p.has W Z) X) kma12 rfl rfl rfl (hall_of kma_ok) (hal2_of kma_ok) (KeB.start 99 W p) (by decide) (fun i hi => by rw [hs0]; exact (show ∀ i, i < 12 → [19, 20, 21, 22, 23, 24, 25, 26, 27, 28, 29, 30].getD i 0 < 113 by decide) i hi) (fun i o hi ho => hdS_of kma_ok i o hi ho) ?_ ?_ (fun a X hR => fin a X hR.1 hR.2)
  · intro j o hj ho a X b hbw E haft KK hKK
    have hsz : a.tmps.size = 113 := E.sz.trans hs0
    have fY1 : a.eval (.tmp 1) = .int .i64 (P : Int) := (E.ag 1 (by decide)).trans eY1
    have fY2 : a.eval (.tmp 2) = .pointer (some ⟨bx, 0, none⟩) := (E.ag 2 (by decide)).trans eY2
    have rd := E.rd
    have rB : X.cell? ⟨bx, 0, none⟩ = some (.pointer (some ⟨p.b, 0, none⟩)) := rd.1.oth nbx hbx
    have r4 : X.cell? ⟨p.b, 4, none⟩ = (toC p s)[4]? := rd.1.cell h (by decide) 4
    clear E fin
    rcases (by omega : j = 0 ∨ j = 1 ∨ j = 2 ∨ j = 3 ∨ j = 4 ∨ j = 5 ∨ j = 6 ∨ j = 7 ∨ j = 8 ∨ j = 9 ∨ j = 10 ∨ j = 11) with rfl | rfl | rfl | rfl | rfl | rfl | rfl | rfl | rfl | rfl | rfl | rfl
    · obtain rfl : kma0 = o := Option.some.inj ho
      exact wp_valueZ (v := .pointer (some ⟨p.b, 0, none⟩)) (w' := X) (by simp [execOp, kma0, fY2, ldTb rB]) (hKK _ _ rd rfl (fun _ _ _ h => h))
    · obtain rfl : kma1 = o := Option.some.inj ho
      have d0 : a.eval (.tmp 19) = .pointer (some ⟨p.b, 0, none⟩) := haft ⟨0, .data⟩ (by simp [kma1]) rfl
      exact wp_valueZ (v := .pointer (some ⟨p.b, 0, none⟩)) (w' := X) (by simp [execOp, kma1, d0]) (hKK _ _ rd rfl (fun _ _ _ h => h))
    · obtain rfl : kma2 = o := Option.some.inj ho
      have d0 : a.eval (.tmp 20) = .pointer (some ⟨p.b, 0, none⟩) := haft ⟨1, .data⟩ (by simp [kma2]) rfl
      exact wp_valueZ (v := .pointer (some ⟨p.b, 4, none⟩)) (w' := X) (by simp [execOp, kma2, d0, fldT4]) (hKK _ _ rd rfl (fun _ _ _ h => h))
    · obtain rfl : kma3 = o := Option.some.inj ho
      have d0 : a.eval (.tmp 21) = .pointer (some ⟨p.b, 4, none⟩) := haft ⟨2, .data⟩ (by simp [kma3]) rfl
      exact wp_valueZ (v := .slice (some ⟨p.gl, 0, none⟩) s.ls.length p.cl) (w' := X) (by simp [execOp, kma3, d0, ldLns r4]) (hKK _ _ rd rfl (fun _ _ _ h => h))
    · obtain rfl : kma4 = o := Option.some.inj ho
      exact wp_valueZ (v := .int .i64 (P : Int)) (w' := X) (by simp [execOp, kma4, fY1]) (hKK _ _ rd rfl (fun _ _ _ h => h))
    · obtain rfl : kma5 = o := Option.some.inj ho
      exact wp_valueZ (v := .pointer (some ⟨p.b, 0, none⟩)) (w' := X) (by simp [execOp, kma5, fY2, ldTb rB]) (hKK _ _ rd rfl (fun _ _ _ h => h))
    · obtain rfl : kma6 = o := Option.some.inj ho
      have d0 : a.eval (.tmp 24) = .pointer (some ⟨p.b, 0, none⟩) := haft ⟨5, .data⟩ (by simp [kma6]) rfl
      exact wp_valueZ (v := .pointer (some ⟨p.b, 0, none⟩)) (w' := X) (by simp [execOp, kma6, d0]) (hKK _ _ rd rfl (fun _ _ _ h => h))
    · obtain rfl : kma7 = o := Option.some.inj ho
      have d0 : a.eval (.tmp 25) = .pointer (some ⟨p.b, 0, none⟩) := haft ⟨6, .data⟩ (by simp [kma7]) rfl
      exact wp_valueZ (v := .pointer (some ⟨p.b, 4, none⟩)) (w' := X) (by simp [execOp, kma7, d0, fldT4]) (hKK _ _ rd rfl (fun _ _ _ h => h))
    · obtain rfl : kma8 = o := Option.some.inj ho
      have d0 : a.eval (.tmp 26) = .pointer (some ⟨p.b, 4, none⟩) := haft ⟨7, .data⟩ (by simp [kma8]) rfl
      exact wp_valueZ (v := .slice (some ⟨p.gl, 0, none⟩) s.ls.length p.cl) (w' := X) (by simp [execOp, kma8, d0, ldLns r4]) (hKK _ _ rd rfl (fun _ _ _ h => h))
    · obtain rfl : kma9 = o := Option.some.inj ho
      have d0 : a.eval (.tmp 27) = .slice (some ⟨p.gl, 0, none⟩) s.ls.length p.cl := haft ⟨8, .data⟩ (by simp [kma9]) rfl
      exact wp_valueZ (v := .int .i64 (s.ls.length : Int)) (w' := X) (by simp [execOp, kma9, resolve, invoke, builtin, d0]; go_simp) (hKK _ _ rd rfl (fun _ _ _ h => h))
    · obtain rfl : kma10 = o := Option.some.inj ho
      have d0 : a.eval (.tmp 22) = .slice (some ⟨p.gl, 0, none⟩) s.ls.length p.cl := haft ⟨3, .data⟩ (by simp [kma10]) rfl
      have d1 : a.eval (.tmp 23) = .int .i64 (P : Int) := haft ⟨4, .data⟩ (by simp [kma10]) rfl
      exact wp_valueZ (v := .pointer (some ⟨p.gl, P * 4, none⟩)) (w' := X) (by simp [execOp, kma10, d0, d1, idxLn hP]) (hKK _ _ rd rfl (fun _ _ _ h => h))
    · obtain rfl : kma11 = o := Option.some.inj ho
      have d0 : a.eval (.tmp 29) = .pointer (some ⟨p.gl, P * 4, none⟩) := haft ⟨10, .data⟩ (by simp [kma11]) rfl
      exact wp_valueZ (v := .pointer (some ⟨p.gl, P * 4 + 1, none⟩)) (w' := X) (by simp [execOp, kma11, d0, fldL1]) (hKK _ _ rd rfl (fun _ _ _ h => h))
  · intro a X b E KK hKK
    have rd := E.rd
    have rB : X.cell? ⟨bx, 0, none⟩ = some (.pointer (some ⟨p.b, 0, none⟩)) := rd.1.oth nbx hbx
    have r4 : X.cell? ⟨p.b, 4, none⟩ = (toC p s)[4]? := rd.1.cell h (by decide) 4
    have hR0 : a.tmps.size = a0.tmps.size ∧ a.defers = a0.defers ∧ ∀ t, (∀ j, j < 12 → [19, 20, 21, 22, 23, 24, 25, 26, 27, 28, 29, 30].getD j 0 ≠ t) → a.eval (.tmp t) = a0.eval (.tmp t) := ⟨E.sz, E.df, E.ag⟩
    have e0 : a.eval (.tmp 30) = .pointer (some ⟨p.gl, P * 4 + 1, none⟩) := E.vs 11 (by decide) trivial
    have e1 : a.eval (.tmp 28) = .int .i64 (s.ls.length : Int) := E.vs 9 (by decide) trivial
    clear E fin
    have hT := rd.1.to h
    obtain ⟨-, l1, -, -, lf⟩ := hT.lc hP
    refine wp_skipZ (w' := X.setCell ⟨p.gl, P * 4 + 1, none⟩ (.int .i64 (s.ls.length : Int))) (by simp [execOp, kma12, e0, e1, stIn l1 (lf _)]) ?_
    exact hKK _ _ ⟨hR0, hT.sed hP _, rd.1.bx.set1 p.gl _ ⟨3, rfl⟩ _⟩
set_option maxRecDepth 100000 in
set_option maxHeartbeats 8000000 in
theorem kma_region {Q : Exit → Act → World → Prop} (W : World) (B : Nat) (p : Tl) (s : Ts) (bx P : Nat) (ds : List Deferred) (t0 t3 t4 t5 t6 t7 t8 t9 t10 t11 t12 t13 t14 t15 t16 t17 t18 t19 t20 t21 t22 t23 t24 t25 t26 t27 t28 t29 t30 t31 t32 t33 t34 t35 t36 t37 t38 t39 t40 t41 t42 t43 t44 t45 t46 t47 t48 t49 t50 t51 t52 t53 t54 t55 t56 t57 t58 t59 t60 t61 t62 t63 t64 t65 t66 t67 t68 t69 t70 t71 t72 t73 t74 t75 t76 t77 t78 t79 t80 t81 t82 t83 t84 t85 t86 t87 t88 t89 t90 t91 t92 t93 t94 t95 t96 t97 t98 t99 t100 t101 t102 t103 t104 t105 t106 t107 t108 t109 t110 t111 t112 : Value)
    (h : To B W p s) (hbx : W.cell? ⟨bx, 0, none⟩ = some (.pointer (some ⟨p.b, 0, none⟩))) (nbx : ¬ p.has bx) (hP : P < s.ls.length)
    (fin : ∀ X (u19 u20 u21 u22 u23 u24 u25 u26 u27 u28 u29 u30 : Value), (fun Z => To B Z p (s.sed P s.ls.length) ∧ Bx p.has W Z) X → Q .normal ⟨#[t0, .int .i64 (P : Int), .pointer (some ⟨bx, 0, none⟩), t3, t4, t5, t6, t7, t8, t9, t10, t11, t12, t13, t14, t15, t16, t17, t18, u19, u20, u21, u22, u23, u24, u25, u26, u27, u28, u29, u30, t31, t32, t33, t34, t35, t36, t37, t38, t39, t40, t41, t42, t43, t44, t45, t46, t47, t48, t49, t50, t51, t52, t53, t54, t55, t56, t57, t58, t59, t60, t61, t62, t63, t64, t65, t66, t67, t68, t69, t70, t71, t72, t73, t74, t75, t76, t77, t78, t79, t80, t81, t82, t83, t84, t85, t86, t87, t88, t89, t90, t91, t92, t93, t94, t95, t96, t97, t98, t99, t100, t101, t102, t103, t104, t105, t106, t107, t108, t109, t110, t111, t112], ds⟩ X) :
    (Code.region 2 kmaOps true).wp Try.prog Q ⟨#[t0, .int .i64 (P : Int), .pointer (some ⟨bx, 0, none⟩), t3, t4, t5, t6, t7, t8, t9, t10, t11, t12, t13, t14, t15, t16, t17, t18, t19, t20, t21, t22, t23, t24, t25, t26, t27, t28, t29, t30, t31, t32, t33, t34, t35, t36, t37, t38, t39, t40, t41, t42, t43, t44, t45, t46, t47, t48, t49, t50, t51, t52, t53, t54, t55, t56, t57, t58, t59, t60, t61, t62, t63, t64, t65, t66, t67, t68, t69, t70, t71, t72, t73, t74, t75, t76, t77, t78, t79, t80, t81, t82, t83, t84, t85, t86, t87, t88, t89, t90, t91, t92, t93, t94, t95, t96, t97, t98, t99, t100, t101, t102, t103, t104, t105, t106, t107, t108, t109, t110, t111, t112], ds⟩ W := by
  obtain ⟨a0, ha0⟩ : ∃ a0 : Act, a0 = ⟨#[t0, .int .i64 (P : Int), .pointer (some ⟨bx, 0, none⟩), t3, t4, t5, t6, t7, t8, t9, t10, t11, t12, t13, t14, t15, t16, t17, t18, t19, t20, t21, t22, t23, t24, t25, t26, t27, t28, t29, t30, t31, t32, t33, t34, t35, t36, t37, t38, t39, t40, t41, t42, t43, t44, t45, t46, t47, t48, t49, t50, t51, t52, t53, t54, t55, t56, t57, t58, t59, t60, t61, t62, t63, t64, t65, t66, t67, t68, t69, t70, t71, t72, t73, t74, t75, t76, t77, t78, t79, t80, t81, t82, t83, t84, t85, t86, t87, t88, t89, t90, t91, t92, t93, t94, t95, t96, t97, t98, t99, t100, t101, t102, t103, t104, t105, t106, t107, t108, t109, t110, t111, t112], ds⟩ := ⟨_, rfl⟩
  have hs0 : a0.tmps.size = 113 := by rw [ha0]; rfl
  have hd0 : a0.defers = ds := by rw [ha0]
  have gY0 : a0.eval (.tmp 0) = t0 := by rw [ha0]; rfl
  have gY1 : a0.eval (.tmp 1) = .int .i64 (P : Int) := by rw [ha0]; rfl
  have gY2 : a0.eval (.tmp 2) = .pointer (some ⟨bx, 0, none⟩) := by rw [ha0]; rfl
  have gY3 : a0.eval (.tmp 3) = t3 := by rw [ha0]; rfl
  have gY4 : a0.eval (.tmp 4) = t4 := by rw [ha0]; rfl
  have gY5 : a0.eval (.tmp 5) = t5 := by rw [ha0]; rfl
  have gY6 : a0.eval (.tmp 6) = t6 := by rw [ha0]; rfl
  have gY7 : a0.eval (.tmp 7) = t7 := by rw [ha0]; rfl
  have gY8 : a0.eval (.tmp 8) = t8 := by rw [ha0]; rfl
  have gY9 : a0.eval (.tmp 9) = t9 := by rw [ha0]; rfl
  have gY10 : a0.eval (.tmp 10) = t10 := by rw [ha0]; rfl
  have gY11 : a0.eval (.tmp 11) = t11 := by rw [ha0]; rfl
  have gY12 : a0.eval (.tmp 12) = t12 := by rw [ha0]; rfl
  have gY13 : a0.eval (.tmp 13) = t13 := by rw [ha0]; rfl
  have gY14 : a0.eval (.tmp 14) = t14 := by rw [ha0]; rfl
  have gY15 : a0.eval (.tmp 15) = t15 := by rw [ha0]; rfl
  have gY16 : a0.eval (.tmp 16) = t16 := by rw [ha0]; rfl
  have gY17 : a0.eval (.tmp 17) = t17 := by rw [ha0]; rfl
  have gY18 : a0.eval (.tmp 18) = t18 := by rw [ha0]; rfl
  have gY31 : a0.eval (.tmp 31) = t31 := by rw [ha0]; rfl
  have gY32 : a0.eval (.tmp 32) = t32 := by rw [ha0]; rfl
  have gY33 : a0.eval (.tmp 33) = t33 := by rw [ha0]; rfl
  have gY34 : a0.eval (.tmp 34) = t34 := by rw [ha0]; rfl
  have gY35 : a0.eval (.tmp 35) = t35 := by rw [ha0]; rfl
  have gY36 : a0.eval (.tmp 36) = t36 := by rw [ha0]; rfl
  have gY37 : a0.eval (.tmp 37) = t37 := by rw [ha0]; rfl
  have gY38 : a0.eval (.tmp 38) = t38 := by rw [ha0]; rfl
  have gY39 : a0.eval (.tmp 39) = t39 := by rw [ha0]; rfl
  have gY40 : a0.eval (.tmp 40) = t40 := by rw [ha0]; rfl
  have gY41 : a0.eval (.tmp 41) = t41 := by rw [ha0]; rfl
  have gY42 : a0.eval (.tmp 42) = t42 := by rw [ha0]; rfl
  have gY43 : a0.eval (.tmp 43) = t43 := by rw [ha0]; rfl
  have gY44 : a0.eval (.tmp 44) = t44 := by rw [ha0]; rfl
  have gY45 : a0.eval (.tmp 45) = t45 := by rw [ha0]; rfl
  have gY46 : a0.eval (.tmp 46) = t46 := by rw [ha0]; rfl
  have gY47 : a0.eval (.tmp 47) = t47 := by rw [ha0]; rfl
  have gY48 : a0.eval (.tmp 48) = t48 := by rw [ha0]; rfl
  have gY49 : a0.eval (.tmp 49) = t49 := by rw [ha0]; rfl
  have gY50 : a0.eval (.tmp 50) = t50 := by rw [ha0]; rfl
  have gY51 : a0.eval (.tmp 51) = t51 := by rw [ha0]; rfl
  have gY52 : a0.eval (.tmp 52) = t52 := by rw [ha0]; rfl
  have gY53 : a0.eval (.tmp 53) = t53 := by rw [ha0]; rfl
  have gY54 : a0.eval (.tmp 54) = t54 := by rw [ha0]; rfl
  have gY55 : a0.eval (.tmp 55) = t55 := by rw [ha0]; rfl
  have gY56 : a0.eval (.tmp 56) = t56 := by rw [ha0]; rfl
  have gY57 : a0.eval (.tmp 57) = t57 := by rw [ha0]; rfl
  have gY58 : a0.eval (.tmp 58) = t58 := by rw [ha0]; rfl
  have gY59 : a0.eval (.tmp 59) = t59 := by rw [ha0]; rfl
  have gY60 : a0.eval (.tmp 60) = t60 := by rw [ha0]; rfl
  have gY61 : a0.eval (.tmp 61) = t61 := by rw [ha0]; rfl
  have gY62 : a0.eval (.tmp 62) = t62 := by rw [ha0]; rfl
  have gY63 : a0.eval (.tmp 63) = t63 := by rw [ha0]; rfl
  have gY64 : a0.eval (.tmp 64) = t64 := by rw [ha0]; rfl
  have gY65 : a0.eval (.tmp 65) = t65 := by rw [ha0]; rfl
  have gY66 : a0.eval (.tmp 66) = t66 := by rw [ha0]; rfl
  have gY67 : a0.eval (.tmp 67) = t67 := by rw [ha0]; rfl
  have gY68 : a0.eval (.tmp 68) = t68 := by rw [ha0]; rfl
  have gY69 : a0.eval (.tmp 69) = t69 := by rw [ha0]; rfl
  have gY70 : a0.eval (.tmp 70) = t70 := by rw [ha0]; rfl
  have gY71 : a0.eval (.tmp 71) = t71 := by rw [ha0]; rfl
  have gY72 : a0.eval (.tmp 72) = t72 := by rw [ha0]; rfl
  have gY73 : a0.eval (.tmp 73) = t73 := by rw [ha0]; rfl
  have gY74 : a0.eval (.tmp 74) = t74 := by rw [ha0]; rfl
  have gY75 : a0.eval (.tmp 75) = t75 := by rw [ha0]; rfl
  have gY76 : a0.eval (.tmp 76) = t76 := by rw [ha0]; rfl
  have gY77 : a0.eval (.tmp 77) = t77 := by rw [ha0]; rfl
  have gY78 : a0.eval (.tmp 78) = t78 := by rw [ha0]; rfl
  have gY79 : a0.eval (.tmp 79) = t79 := by rw [ha0]; rfl
  have gY80 : a0.eval (.tmp 80) = t80 := by rw [ha0]; rfl
  have gY81 : a0.eval (.tmp 81) = t81 := by rw [ha0]; rfl
  have gY82 : a0.eval (.tmp 82) = t82 := by rw [ha0]; rfl
  have gY83 : a0.eval (.tmp 83) = t83 := by rw [ha0]; rfl
  have gY84 : a0.eval (.tmp 84) = t84 := by rw [ha0]; rfl
  have gY85 : a0.eval (.tmp 85) = t85 := by rw [ha0]; rfl
  have gY86 : a0.eval (.tmp 86) = t86 := by rw [ha0]; rfl
  have gY87 : a0.eval (.tmp 87) = t87 := by rw [ha0]; rfl
  have gY88 : a0.eval (.tmp 88) = t88 := by rw [ha0]; rfl
  have gY89 : a0.eval (.tmp 89) = t89 := by rw [ha0]; rfl
  have gY90 : a0.eval (.tmp 90) = t90 := by rw [ha0]; rfl
  have gY91 : a0.eval (.tmp 91) = t91 := by rw [ha0]; rfl
  have gY92 : a0.eval (.tmp 92) = t92 := by rw [ha0]; rfl
  have gY93 : a0.eval (.tmp 93) = t93 := by rw [ha0]; rfl
  have gY94 : a0.eval (.tmp 94) = t94 := by rw [ha0]; rfl
  have gY95 : a0.eval (.tmp 95) = t95 := by rw [ha0]; rfl
  have gY96 : a0.eval (.tmp 96) = t96 := by rw [ha0]; rfl
  have gY97 : a0.eval (.tmp 97) = t97 := by rw [ha0]; rfl
  have gY98 : a0.eval (.tmp 98) = t98 := by rw [ha0]; rfl
  have gY99 : a0.eval (.tmp 99) = t99 := by rw [ha0]; rfl
  have gY100 : a0.eval (.tmp 100) = t100 := by rw [ha0]; rfl
  have gY101 : a0.eval (.tmp 101) = t101 := by rw [ha0]; rfl
  have gY102 : a0.eval (.tmp 102) = t102 := by rw [ha0]; rfl
  have gY103 : a0.eval (.tmp 103) = t103 := by rw [ha0]; rfl
  have gY104 : a0.eval (.tmp 104) = t104 := by rw [ha0]; rfl
  have gY105 : a0.eval (.tmp 105) = t105 := by rw [ha0]; rfl
  have gY106 : a0.eval (.tmp 106) = t106 := by rw [ha0]; rfl
  have gY107 : a0.eval (.tmp 107) = t107 := by rw [ha0]; rfl
  have gY108 : a0.eval (.tmp 108) = t108 := by rw [ha0]; rfl
  have gY109 : a0.eval (.tmp 109) = t109 := by rw [ha0]; rfl
  have gY110 : a0.eval (.tmp 110) = t110 := by rw [ha0]; rfl
  have gY111 : a0.eval (.tmp 111) = t111 := by rw [ha0]; rfl
  have gY112 : a0.eval (.tmp 112) = t112 := by rw [ha0]; rfl
  rw [← ha0]
  refine kma_core W B p s bx P a0 hs0 gY1 gY2 h hbx nbx hP ?_
  clear ha0
  rintro a X ⟨es, ed, ag⟩ hF
  have hq := fin X (a.eval (.tmp 19)) (a.eval (.tmp 20)) (a.eval (.tmp 21)) (a.eval (.tmp 22)) (a.eval (.tmp 23)) (a.eval (.tmp 24)) (a.eval (.tmp 25)) (a.eval (.tmp 26)) (a.eval (.tmp 27)) (a.eval (.tmp 28)) (a.eval (.tmp 29)) (a.eval (.tmp 30)) hF
  have ea : a = ⟨#[a.eval (.tmp 0), a.eval (.tmp 1), a.eval (.tmp 2), a.eval (.tmp 3), a.eval (.tmp 4), a.eval (.tmp 5), a.eval (.tmp 6), a.eval (.tmp 7), a.eval (.tmp 8), a.eval (.tmp 9), a.eval (.tmp 10), a.eval (.tmp 11), a.eval (.tmp 12), a.eval (.tmp 13), a.eval (.tmp 14), a.eval (.tmp 15), a.eval (.tmp 16), a.eval (.tmp 17), a.eval (.tmp 18), a.eval (.tmp 19), a.eval (.tmp 20), a.eval (.tmp 21), a.eval (.tmp 22), a.eval (.tmp 23), a.eval (.tmp 24), a.eval (.tmp 25), a.eval (.tmp 26), a.eval (.tmp 27), a.eval (.tmp 28), a.eval (.tmp 29), a.eval (.tmp 30), a.eval (.tmp 31), a.eval (.tmp 32), a.eval (.tmp 33), a.eval (.tmp 34), a.eval (.tmp 35), a.eval (.tmp 36), a.eval (.tmp 37), a.eval (.tmp 38), a.eval (.tmp 39), a.eval (.tmp 40), a.eval (.tmp 41), a.eval (.tmp 42), a.eval (.tmp 43), a.eval (.tmp 44), a.eval (.tmp 45), a.eval (.tmp 46), a.eval (.tmp 47), a.eval (.tmp 48), a.eval (.tmp 49), a.eval (.tmp 50), a.eval (.tmp 51), a.eval (.tmp 52), a.eval (.tmp 53), a.eval (.tmp 54), a.eval (.tmp 55), a.eval (.tmp 56), a.eval (.tmp 57), a.eval (.tmp 58), a.eval (.tmp 59), a.eval (.tmp 60), a.eval (.tmp 61), a.eval (.tmp 62), a.eval (.tmp 63), a.eval (.tmp 64), a.eval (.tmp 65), a.eval (.tmp 66), a.eval (.tmp 67), a.eval (.tmp 68), a.eval (.tmp 69), a.eval (.tmp 70), a.eval (.tmp 71), a.eval (.tmp 72), a.eval (.tmp 73), a.eval (.tmp 74), a.eval (.tmp 75), a.eval (.tmp 76), a.eval (.tmp 77), a.eval (.tmp 78), a.eval (.tmp 79), a.eval (.tmp 80), a.eval (.tmp 81), a.eval (.tmp 82), a.eval (.tmp 83), a.eval (.tmp 84), a.eval (.tmp 85), a.eval (.tmp 86), a.eval (.tmp 87), a.eval (.tmp 88), a.eval (.tmp 89), a.eval (.tmp 90), a.eval (.tmp 91), a.eval (.tmp 92), a.eval (.tmp 93), a.eval (.tmp 94), a.eval (.tmp 95), a.eval (.tmp 96), a.eval (.tmp 97), a.eval (.tmp 98), a.eval (.tmp 99), a.eval (.tmp 100), a.eval (.tmp 101), a.eval (.tmp 102), a.eval (.tmp 103), a.eval (.tmp 104), a.eval (.tmp 105), a.eval (.tmp 106), a.eval (.tmp 107), a.eval (.tmp 108), a.eval (.tmp 109), a.eval (.tmp 110), a.eval (.tmp 111), a.eval (.tmp 112)], a.defers⟩ := act_eta a 113 (es.trans hs0)
  rw [ea, ed, hd0]
  have kY0 : a.eval (.tmp 0) = t0 := (ag 0 (by decide)).trans gY0
  have kY1 : a.eval (.tmp 1) = .int .i64 (P : Int) := (ag 1 (by decide)).trans gY1
  have kY2 : a.eval (.tmp 2) = .pointer (some ⟨bx, 0, none⟩) := (ag 2 (by decide)).trans gY2
  have kY3 : a.eval (.tmp 3) = t3 := (ag 3 (by decide)).trans gY3
  have kY4 : a.eval (.tmp 4) = t4 := (ag 4 (by decide)).trans gY4
  have kY5 : a.eval (.tmp 5) = t5 := (ag 5 (by decide)).trans gY5
  have kY6 : a.eval (.tmp 6) = t6 := (ag 6 (by decide)).trans gY6
  have kY7 : a.eval (.tmp 7) = t7 := (ag 7 (by decide)).trans gY7
  have kY8 : a.eval (.tmp 8) = t8 := (ag 8 (by decide)).trans gY8
  have kY9 : a.eval (.tmp 9) = t9 := (ag 9 (by decide)).trans gY9
  have kY10 : a.eval (.tmp 10) = t10 := (ag 10 (by decide)).trans gY10
  have kY11 : a.eval (.tmp 11) = t11 := (ag 11 (by decide)).trans gY11
  have kY12 : a.eval (.tmp 12) = t12 := (ag 12 (by decide)).trans gY12
  have kY13 : a.eval (.tmp 13) = t13 := (ag 13 (by decide)).trans gY13
  have kY14 : a.eval (.tmp 14) = t14 := (ag 14 (by decide)).trans gY14
  have kY15 : a.eval (.tmp 15) = t15 := (ag 15 (by decide)).trans gY15
  have kY16 : a.eval (.tmp 16) = t16 := (ag 16 (by decide)).trans gY16
  have kY17 : a.eval (.tmp 17) = t17 := (ag 17 (by decide)).trans gY17
  have kY18 : a.eval (.tmp 18) = t18 := (ag 18 (by decide)).trans gY18
  have kY31 : a.eval (.tmp 31) = t31 := (ag 31 (by decide)).trans gY31
  have kY32 : a.eval (.tmp 32) = t32 := (ag 32 (by decide)).trans gY32
  have kY33 : a.eval (.tmp 33) = t33 := (ag 33 (by decide)).trans gY33
  have kY34 : a.eval (.tmp 34) = t34 := (ag 34 (by decide)).trans gY34
  have kY35 : a.eval (.tmp 35) = t35 := (ag 35 (by decide)).trans gY35
  have kY36 : a.eval (.tmp 36) = t36 := (ag 36 (by decide)).trans gY36
  have kY37 : a.eval (.tmp 37) = t37 := (ag 37 (by decide)).trans gY37
  have kY38 : a.eval (.tmp 38) = t38 := (ag 38 (by decide)).trans gY38
  have kY39 : a.eval (.tmp 39) = t39 := (ag 39 (by decide)).trans gY39
  have kY40 : a.eval (.tmp 40) = t40 := (ag 40 (by decide)).trans gY40
  have kY41 : a.eval (.tmp 41) = t41 := (ag 41 (by decide)).trans gY41
  have kY42 : a.eval (.tmp 42) = t42 := (ag 42 (by decide)).trans gY42
  have kY43 : a.eval (.tmp 43) = t43 := (ag 43 (by decide)).trans gY43
  have kY44 : a.eval (.tmp 44) = t44 := (ag 44 (by decide)).trans gY44
  have kY45 : a.eval (.tmp 45) = t45 := (ag 45 (by decide)).trans gY45
  have kY46 : a.eval (.tmp 46) = t46 := (ag 46 (by decide)).trans gY46
  have kY47 : a.eval (.tmp 47) = t47 := (ag 47 (by decide)).trans gY47
  have kY48 : a.eval (.tmp 48) = t48 := (ag 48 (by decide)).trans gY48
  have kY49 : a.eval (.tmp 49) = t49 := (ag 49 (by decide)).trans gY49
  have kY50 : a.eval (.tmp 50) = t50 := (ag 50 (by decide)).trans gY50
  have kY51 : a.eval (.tmp 51) = t51 := (ag 51 (by decide)).trans gY51
  have kY52 : a.eval (.tmp 52) = t52 := (ag 52 (by decide)).trans gY52
  have kY53 : a.eval (.tmp 53) = t53 := (ag 53 (by decide)).trans gY53
  have kY54 : a.eval (.tmp 54) = t54 := (ag 54 (by decide)).trans gY54
  have kY55 : a.eval (.tmp 55) = t55 := (ag 55 (by decide)).trans gY55
  have kY56 : a.eval (.tmp 56) = t56 := (ag 56 (by decide)).trans gY56
  have kY57 : a.eval (.tmp 57) = t57 := (ag 57 (by decide)).trans gY57
  have kY58 : a.eval (.tmp 58) = t58 := (ag 58 (by decide)).trans gY58
  have kY59 : a.eval (.tmp 59) = t59 := (ag 59 (by decide)).trans gY59
  have kY60 : a.eval (.tmp 60) = t60 := (ag 60 (by decide)).trans gY60
  have kY61 : a.eval (.tmp 61) = t61 := (ag 61 (by decide)).trans gY61
  have kY62 : a.eval (.tmp 62) = t62 := (ag 62 (by decide)).trans gY62
  have kY63 : a.eval (.tmp 63) = t63 := (ag 63 (by decide)).trans gY63
  have kY64 : a.eval (.tmp 64) = t64 := (ag 64 (by decide)).trans gY64
  have kY65 : a.eval (.tmp 65) = t65 := (ag 65 (by decide)).trans gY65
  have kY66 : a.eval (.tmp 66) = t66 := (ag 66 (by decide)).trans gY66
  have kY67 : a.eval (.tmp 67) = t67 := (ag 67 (by decide)).trans gY67
  have kY68 : a.eval (.tmp 68) = t68 := (ag 68 (by decide)).trans gY68
  have kY69 : a.eval (.tmp 69) = t69 := (ag 69 (by decide)).trans gY69
  have kY70 : a.eval (.tmp 70) = t70 := (ag 70 (by decide)).trans gY70
  have kY71 : a.eval (.tmp 71) = t71 := (ag 71 (by decide)).trans gY71
  have kY72 : a.eval (.tmp 72) = t72 := (ag 72 (by decide)).trans gY72
  have kY73 : a.eval (.tmp 73) = t73 := (ag 73 (by decide)).trans gY73
  have kY74 : a.eval (.tmp 74) = t74 := (ag 74 (by decide)).trans gY74
  have kY75 : a.eval (.tmp 75) = t75 := (ag 75 (by decide)).trans gY75
  have kY76 : a.eval (.tmp 76) = t76 := (ag 76 (by decide)).trans gY76
  have kY77 : a.eval (.tmp 77) = t77 := (ag 77 (by decide)).trans gY77
  have kY78 : a.eval (.tmp 78) = t78 := (ag 78 (by decide)).trans gY78
  have kY79 : a.eval (.tmp 79) = t79 := (ag 79 (by decide)).trans gY79
  have kY80 : a.eval (.tmp 80) = t80 := (ag 80 (by decide)).trans gY80
  have kY81 : a.eval (.tmp 81) = t81 := (ag 81 (by decide)).trans gY81
  have kY82 : a.eval (.tmp 82) = t82 := (ag 82 (by decide)).trans gY82
  have kY83 : a.eval (.tmp 83) = t83 := (ag 83 (by decide)).trans gY83
  have kY84 : a.eval (.tmp 84) = t84 := (ag 84 (by decide)).trans gY84
  have kY85 : a.eval (.tmp 85) = t85 := (ag 85 (by decide)).trans gY85
  have kY86 : a.eval (.tmp 86) = t86 := (ag 86 (by decide)).trans gY86
  have kY87 : a.eval (.tmp 87) = t87 := (ag 87 (by decide)).trans gY87
  have kY88 : a.eval (.tmp 88) = t88 := (ag 88 (by decide)).trans gY88
  have kY89 : a.eval (.tmp 89) = t89 := (ag 89 (by decide)).trans gY89
  have kY90 : a.eval (.tmp 90) = t90 := (ag 90 (by decide)).trans gY90
  have kY91 : a.eval (.tmp 91) = t91 := (ag 91 (by decide)).trans gY91
  have kY92 : a.eval (.tmp 92) = t92 := (ag 92 (by decide)).trans gY92
  have kY93 : a.eval (.tmp 93) = t93 := (ag 93 (by decide)).trans gY93
  have kY94 : a.eval (.tmp 94) = t94 := (ag 94 (by decide)).trans gY94
  have kY95 : a.eval (.tmp 95) = t95 := (ag 95 (by decide)).trans gY95
  have kY96 : a.eval (.tmp 96) = t96 := (ag 96 (by decide)).trans gY96
  have kY97 : a.eval (.tmp 97) = t97 := (ag 97 (by decide)).trans gY97
  have kY98 : a.eval (.tmp 98) = t98 := (ag 98 (by decide)).trans gY98
  have kY99 : a.eval (.tmp 99) = t99 := (ag 99 (by decide)).trans gY99
  have kY100 : a.eval (.tmp 100) = t100 := (ag 100 (by decide)).trans gY100
  have kY101 : a.eval (.tmp 101) = t101 := (ag 101 (by decide)).trans gY101
  have kY102 : a.eval (.tmp 102) = t102 := (ag 102 (by decide)).trans gY102
  have kY103 : a.eval (.tmp 103) = t103 := (ag 103 (by decide)).trans gY103
  have kY104 : a.eval (.tmp 104) = t104 := (ag 104 (by decide)).trans gY104
  have kY105 : a.eval (.tmp 105) = t105 := (ag 105 (by decide)).trans gY105
  have kY106 : a.eval (.tmp 106) = t106 := (ag 106 (by decide)).trans gY106
  have kY107 : a.eval (.tmp 107) = t107 := (ag 107 (by decide)).trans gY107
  have kY108 : a.eval (.tmp 108) = t108 := (ag 108 (by decide)).trans gY108
  have kY109 : a.eval (.tmp 109) = t109 := (ag 109 (by decide)).trans gY109
  have kY110 : a.eval (.tmp 110) = t110 := (ag 110 (by decide)).trans gY110
  have kY111 : a.eval (.tmp 111) = t111 := (ag 111 (by decide)).trans gY111
  have kY112 : a.eval (.tmp 112) = t112 := (ag 112 (by decide)).trans gY112
  rw [kY0, kY1, kY2, kY3, kY4, kY5, kY6, kY7, kY8, kY9, kY10, kY11, kY12, kY13, kY14, kY15, kY16, kY17, kY18, kY31, kY32, kY33, kY34, kY35, kY36, kY37, kY38, kY39, kY40, kY41, kY42, kY43, kY44, kY45, kY46, kY47, kY48, kY49, kY50, kY51, kY52, kY53, kY54, kY55, kY56, kY57, kY58, kY59, kY60, kY61, kY62, kY63, kY64, kY65, kY66, kY67, kY68, kY69, kY70, kY71, kY72, kY73, kY74, kY75, kY76, kY77, kY78, kY79, kY80, kY81, kY82, kY83, kY84, kY85, kY86, kY87, kY88, kY89, kY90, kY91, kY92, kY93, kY94, kY95, kY96, kY97, kY98, kY99, kY100, kY101, kY102, kY103, kY104, kY105, kY106, kY107, kY108, kY109, kY110, kY111, kY112]
  exact hq
theorem run_addSp {a : Act} {o : Oper} {x y : Operand} {u v : List Int} {w : World} (ho : o.op = .binOp .add 47 x y 47) (hx : a.eval x = .string (sp u)) (hy : a.eval y = .string (sp v)) (hl : u.length ≤ 8000000) (hm : v.length ≤ 8000000) : (execOp a.eval o).run Try.prog w = .ok (.value (.string (sp (u ++ v)))) w := by
  have z1 := sp_size u
  have z2 := sp_size v
  have hlm : u.length + v.length ≤ 9223372036854775807 := by omega
  have h3 : (binOp .add 47 (.string (sp u)) (.string (sp v))).run Try.prog w = .ok (.string (sp u ++ sp v)) w := by go_simp
  simp only [execOp, ho, hx, hy, eqGuard]
  simp [h3, Result.andThen, sp_app]
theorem run_pushV {a : Act} {o : Oper} {x y : Operand} {t t' : TypeId} {u v v' : Value} {w w' : World} (ho : o.op = .call { callee := .builtin .append, args := #[x, y], argTypes := #[t, t'] }) (hx : a.eval x = u) (hy : a.eval y = v) (hr : (Builtin.append_ #[t, t'] o.type #[u, v]).run Try.prog w = .ok v' w') : (execOp a.eval o).run Try.prog w = .ok (.value v') w' := by
  simp [execOp, ho, resolve, invoke, builtin, hx, hy, hr, Result.andThen]
/-- A number more. -/
theorem push_ni {w : World} {B n c : Nat} {a : Option Addr} {R : List Nat} (ty : TypeId) (h : OwnL .i64 3 w B (.slice a n c) (ni R)) {N P : Nat} (hc : w.cell? ⟨N, 0, none⟩ = some (.int .i64 (P : Int))) (hn : n = R.length) (hR : R.length ≤ 1000000) (hB : B ≤ w.heap.size) :
    ∃ a' c' w', (Builtin.append_ #[57, 57] ty #[.slice a n c, .slice (some ⟨N, 0, none⟩) 1 1]).run Try.prog w = .ok (.slice a' (R ++ [P]).length c') w' ∧ OwnL .i64 3 w' B (.slice a' (R ++ [P]).length c') (ni (R ++ [P])) ∧ w.grownBy w' (obk a) ∧ ∀ k, obk a' = some k → obk a = some k ∨ w.heap.size ≤ k := by
  obtain ⟨i0, hi0, hi1, hi2, hi3⟩ := intR
  obtain ⟨v', w', hr, h1, h2, -, h4⟩ := run_append_own_at w B 57 ty 3 i0 (.int .i64 0) 1 8 Try.underlying57 hi0 hi1 hi2 hi3 rfl (by decide) (.slice a n c) R.length ((ni R).map (Value.int .i64)) (by
    unfold OwnL at h; rw [ni_len] at h; exact h) ⟨N, 0, none⟩ 1 1 [.int .i64 (P : Int)] rfl (fun j u hj => by
      match j, hj with
      | 0, hj => cases hj; exact hc
      | _ + 1, hj => cases hj) (fun u hu => by rw [List.mem_singleton] at hu; subst hu; rfl) (by unfold maxLen; omega) (by omega) hB
  have ho : OwnL .i64 3 w' B v' (ni (R ++ [P])) := by
    unfold OwnL
    rw [ni_len, ni_snoc, List.map_append, List.length_append]
    exact h1
  obtain ⟨a', c', e, -, -, -, -, -⟩ := ho.shape
  rw [ni_len] at e
  subst e
  refine ⟨a', c', w', hr, ho, by rw [ob_sl] at h2; exact h2, fun k hk => ?_⟩
  rw [ob_sl, ob_sl] at h4
  rcases h4 with h4 | h4
  · left; rw [← h4]; exact hk
  · right; rw [hk] at h4; cases h4; exact Nat.le_refl _
/-- A struct more. -/
theorem push_g {α : Type} {e st : TypeId} {z : Value} {k b : Nat} {enc : α → List Value} (E : EltG e st z k b enc) {w : World} {B n c : Nat} {a : Option Addr} {R : List α} (ty : TypeId) (h : OwnG e k enc w B (.slice a n c) R) {N : Nat} {x : α} (hc : ∀ j u, (enc x)[j]? = some u → w.cell? ⟨N, j, none⟩ = some u) (hn : n = R.length) (hR : (R.length + 1) * b ≤ 140737488355328) (hR2 : R.length + 1 ≤ maxLen) (hB : B ≤ w.heap.size) :
    ∃ a' c' w', (Builtin.append_ #[st, st] ty #[.slice a n c, .slice (some ⟨N, 0, none⟩) 1 1]).run Try.prog w = .ok (.slice a' (R ++ [x]).length c') w' ∧ OwnG e k enc w' B (.slice a' (R ++ [x]).length c') (R ++ [x]) ∧ w.grownBy w' (obk a) ∧ ∀ k, obk a' = some k → obk a = some k ∨ w.heap.size ≤ k := by
  obtain ⟨i, hi, hz0, hz1, hz2⟩ := info_parts E.info
  obtain ⟨v', w', hr, h1, h2, -, h4⟩ := run_append_own_at w B st ty e i z k b E.und hi hz0 hz1 hz2 E.zs E.pos (.slice a n c) R.length (R.flatMap enc) h ⟨N, 0, none⟩ 1 1 (enc x) (by rw [E.len, Nat.one_mul]) (fun j u hj => by rw [add_at, Nat.zero_add]; exact hc j u hj) (E.one x) hR2 hR hB
  have ho : OwnG e k enc w' B v' (R ++ [x]) := by
    unfold OwnG
    rw [List.length_append, List.length_singleton, List.flatMap_append, List.flatMap_singleton]; exact h1
  obtain ⟨a', c', e⟩ := ho.shape
  subst e
  refine ⟨a', c', w', hr, ho, by rw [ob_sl] at h2; exact h2, fun k hk => ?_⟩
  rw [ob_sl, ob_sl] at h4
  rcases h4 with h4 | h4
  · left; rw [← h4]; exact hk
  · right; rw [hk] at h4; cases h4; exact Nat.le_refl _
theorem KeO.grown {J : Nat} {W0 W W' : World} {p : Tl} (k : KeO J W0 p W) (hg : W.grownBy W' (p.bk J)) (hl : ∀ i b, p.bk i = some b → b < W0.heap.size) (hd : ∀ i j b, p.bk i = some b → p.bk j = some b → i = j) : KeO J W0 p W' :=
  ⟨k.bx.grown hg (fun b e _ => ⟨J, e⟩), fun i b hi e => (hg.block b (Nat.lt_of_lt_of_le (hl i b e) k.bx.size) (fun q => hi (hd i J b e q.symm))).trans (k.ke i b hi e)⟩
theorem KeO.bxk {J : Nat} {W0 W W' : World} {p : Tl} {g : Nat} (k : KeO J W0 p W) (hg : Bx (fun k => k = g) W W') (hJ : p.bk J = some g) (hl : ∀ i b, p.bk i = some b → b < W0.heap.size) (hd : ∀ i j b, p.bk i = some b → p.bk j = some b → i = j) : KeO J W0 p W' :=
  ⟨k.bx.trans hg (fun b _ e => by subst e; exact ⟨J, hJ⟩), fun i b hi e => (hg.block b (Nat.lt_of_lt_of_le (hl i b e) k.bx.size) (fun q => by subst q; exact hi (hd i J b e hJ))).trans (k.ke i b hi e)⟩

def kmb0 : Oper := { dst := some 31, op := Op.load 23 (Operand.tmp 2), type := 23, pos := "line.go:52", after := #[], guard := none }
def kmb1 : Oper := { dst := some 32, op := Op.load 23 (Operand.tmp 2), type := 23, pos := "line.go:52", after := #[], guard := none }
def kmb2 : Oper := { dst := some 33, op := Op.nilCheck (Operand.tmp 32), type := 0, pos := "line.go:52", after := #[{ on := 1, ground := Ground.data }], guard := none }
def kmb3 : Oper := { dst := some 34, op := Op.fieldAddr 62 (Operand.tmp 33) 5, type := 0, pos := "line.go:52", after := #[{ on := 2, ground := Ground.data }], guard := none }
def kmb4 : Oper := { dst := some 35, op := Op.load 57 (Operand.tmp 34), type := 57, pos := "line.go:52", after := #[{ on := 3, ground := Ground.data }], guard := none }
def kmb5 : Oper := { dst := some 36, op := Op.move (Operand.tmp 1), type := 3, pos := "line.go:52", after := #[], guard := none }
def kmb6 : Oper := { dst := some 37, op := Op.buildSlice 57 1 #[(0, Operand.tmp 36)], type := 57, pos := "line.go:52", after := #[{ on := 5, ground := Ground.data }], guard := none }
def kmb7 : Oper := { dst := some 38, op := Op.call { callee := Callee.builtin Builtin.append, args := #[Operand.tmp 35, Operand.tmp 37], argTypes := #[57, 57] }, type := 57, pos := "line.go:52", after := #[{ on := 4, ground := Ground.data }, { on := 6, ground := Ground.data }], guard := none }
def kmb8 : Oper := { dst := some 39, op := Op.nilCheck (Operand.tmp 31), type := 0, pos := "line.go:52", after := #[{ on := 0, ground := Ground.data }, { on := 0, ground := Ground.phase }, { on := 1, ground := Ground.phase }, { on := 2, ground := Ground.phase }, { on := 3, ground := Ground.phase }, { on := 4, ground := Ground.phase }, { on := 5, ground := Ground.phase }, { on := 6, ground := Ground.phase }, { on := 7, ground := Ground.phase }], guard := none }
def kmb9 : Oper := { dst := some 40, op := Op.fieldAddr 62 (Operand.tmp 39) 5, type := 0, pos := "line.go:52", after := #[{ on := 8, ground := Ground.data }, { on := 0, ground := Ground.phase }, { on := 1, ground := Ground.phase }, { on := 2, ground := Ground.phase }, { on := 3, ground := Ground.phase }, { on := 4, ground := Ground.phase }, { on := 5, ground := Ground.phase }, { on := 6, ground := Ground.phase }, { on := 7, ground := Ground.phase }], guard := none }
def kmb10 : Oper := { dst := none, op := Op.store 57 (Operand.tmp 40) (Operand.tmp 38), type := 0, pos := "line.go:52", after := #[{ on := 9, ground := Ground.data }, { on := 7, ground := Ground.data }, { on := 7, ground := Ground.chain }, { on := 0, ground := Ground.phase }, { on := 1, ground := Ground.phase }, { on := 2, ground := Ground.phase }, { on := 3, ground := Ground.phase }, { on := 4, ground := Ground.phase }, { on := 5, ground := Ground.phase }, { on := 6, ground := Ground.phase }, { on := 7, ground := Ground.phase }], guard := none }
def kmbOps : Array Oper := #[kmb0, kmb1, kmb2, kmb3, kmb4, kmb5, kmb6, kmb7, kmb8, kmb9, kmb10]

def kmbT (N0 B : Nat) (p : Tl) (s : Ts) (bx P : Nat) : Nat → Value → World → Prop
  | 0, v, _ => v = .pointer (some ⟨p.b, 0, none⟩)
  | 1, v, _ => v = .pointer (some ⟨p.b, 0, none⟩)
  | 2, v, _ => v = .pointer (some ⟨p.b, 0, none⟩)
  | 3, v, _ => v = .pointer (some ⟨p.b, 5, none⟩)
  | 4, v, _ => v = .slice p.ar s.rows.length p.cr
  | 5, v, _ => v = .int .i64 (P : Int)
  | 6, v, W => ∃ N, v = .slice (some ⟨N, 0, none⟩) 1 1 ∧ N0 ≤ N ∧ W.cell? ⟨N, 0, none⟩ = some (.int .i64 (P : Int))
  | 7, v, W => ∃ a' c', v = .slice a' (s.rows ++ [P]).length c' ∧ OwnL .i64 3 W B v (ni (s.rows ++ [P])) ∧ ∀ k, obk a' = some k → p.bk 5 = some k ∨ N0 ≤ k
  | 8, v, _ => v = .pointer (some ⟨p.b, 0, none⟩)
  | 9, v, _ => v = .pointer (some ⟨p.b, 5, none⟩)
  | _, _, _ => True
set_option maxRecDepth 100000 in
set_option maxHeartbeats 1000000 in
theorem kmb_ok : okS2 kmbOps [31, 32, 33, 34, 35, 36, 37, 38, 39, 40] = true := by kernel_rfl
theorem kmbT_below (N0 B : Nat) (p : Tl) (s : Ts) (bx P : Nat) {v : Value} {W W' : World} (hb : Below W.heap.size W W') : ∀ {i : Nat}, kmbT N0 B p s bx P i v W → kmbT N0 B p s bx P i v W'
  | 0, h => h
  | 1, h => h
  | 2, h => h
  | 3, h => h
  | 4, h => h
  | 5, h => h
  | 6, ⟨N, e, h1, h2⟩ => ⟨N, e, h1, (hb.cell (World.block_lt_of_cell? W _ h2)).trans h2⟩
  | 7, ⟨a', c', e, h1, h2⟩ => ⟨a', c', e, OwnL.grown h1 hb, h2⟩
  | 8, h => h
  | 9, h => h
  | _ + 10, h => h
theorem kmbT_gr (N0 B : Nat) (p : Tl) (s : Ts) (bx P : Nat) {W W' : World} (hs : ∀ N x, N0 ≤ N → W.cell? ⟨N, 0, none⟩ = some x → W'.cell? ⟨N, 0, none⟩ = some x) {v : Value} : ∀ {i : Nat}, i ≠ 7 → kmbT N0 B p s bx P i v W → kmbT N0 B p s bx P i v W'
  | 0, _, h => h
  | 1, _, h => h
  | 2, _, h => h
  | 3, _, h => h
  | 4, _, h => h
  | 5, _, h => h
  | 6, _, ⟨N, e, h1, h2⟩ => ⟨N, e, h1, hs N _ h1 h2⟩
  | 7, n, _ => absurd rfl n
  | 8, _, h => h
  | 9, _, h => h
  | _ + 10, _, h => h
set_option maxRecDepth 100000 in
set_option maxHeartbeats 8000000 in
theorem kmb_core {Q : Exit → Act → World → Prop} (W : World) (N0 B : Nat) (p : Tl) (s : Ts) (bx P : Nat) (a0 : Act) (hs0 : a0.tmps.size = 113) (eY1 : a0.eval (.tmp 1) = .int .i64 (P : Int)) (eY2 : a0.eval (.tmp 2) = .pointer (some ⟨bx, 0, none⟩))
    (hN0 : N0 = W.heap.size) (h : To B W p s) (hbx : W.cell? ⟨bx, 0, none⟩ = some (.pointer (some ⟨p.b, 0, none⟩))) (nbx : ¬ p.has bx) (hR : s.rows.length ≤ 1000000) (hB : B ≤ W.heap.size)
    (fin : ∀ a X, (a.tmps.size = a0.tmps.size ∧ a.defers = a0.defers ∧ ∀ t, (∀ j, j < 10 → [31, 32, 33, 34, 35, 36, 37, 38, 39, 40].getD j 0 ≠ t) → a.eval (.tmp t) = a0.eval (.tmp t)) → (fun Z => ∃ a' c', To B Z { p with ar := a', cr := c' } { s with rows := s.rows ++ [P] } ∧ Bx p.has W Z ∧ Gw p { p with ar := a', cr := c' } W.heap.size) X → Q .normal a X) :
    (Code.region 3 kmbOps true).wp Try.prog Q a0 W := by
  refine wp_region_st (by kernel_rfl) a0 W 10 (fun i => [31, 32, 33, 34, 35, 36, 37, 38, 39, 40].getD i 0) (kmbT N0 B p s bx P) 7 (KeB 5 W p) (fun a X => (a.tmps.size = a0.tmps.size ∧ a.defers = a0.defers ∧ ∀ t, (∀ j, j < 10 → [31, 32, 33, 34, 35, 36, 37, 38, 39, 40].getD j 0 ≠ t) → a.eval (.tmp t) = a0.eval (.tmp t)) ∧ (fun Z => ∃ a' c', To B Z { p with ar := a', cr := c' } { s with rows := s.rows ++ [P] } ∧ Bx p.has W Z ∧ Gw p { p with ar := a', cr := c' } W.heap.size) X) kmb10 rfl rfl rfl (hall_of kmb_ok) (hal2_of kmb_ok) (KeB.start 5 W p) (by decide) (fun i hi => by rw [hs0]; exact (show ∀ i, i < 10 → [31, 32, 33, 34, 35, 36, 37, 38, 39, 40].getD i 0 < 113 by decide) i hi) (fun i o hi ho => hdS_of kmb_ok i o hi ho) ?_ ?_ (fun a X hR => fin a X hR.1 hR.2)
  · intro j o hj ho a X b hbw E haft KK hKK
    have hsz : a.tmps.size = 113 := E.sz.trans hs0
    have fY1 : a.eval (.tmp 1) = .int .i64 (P : Int) := (E.ag 1 (by decide)).trans eY1
    have fY2 : a.eval (.tmp 2) = .pointer (some ⟨bx, 0, none⟩) := (E.ag 2 (by decide)).trans eY2
    have rd := E.rd
    have rB : X.cell? ⟨bx, 0, none⟩ = some (.pointer (some ⟨p.b, 0, none⟩)) := rd.1.oth nbx hbx
    have r5 : X.cell? ⟨p.b, 5, none⟩ = (toC p s)[5]? := rd.1.cell h (by decide) 5
    clear E fin
    rcases (by omega : j = 0 ∨ j = 1 ∨ j = 2 ∨ j = 3 ∨ j = 4 ∨ j = 5 ∨ j = 6 ∨ j = 7 ∨ j = 8 ∨ j = 9) with rfl | rfl | rfl | rfl | rfl | rfl | rfl | rfl | rfl | rfl
    · obtain rfl : kmb0 = o := Option.some.inj ho
      exact wp_valueZ (v := .pointer (some ⟨p.b, 0, none⟩)) (w' := X) (by simp [execOp, kmb0, fY2, ldTb rB]) (hKK _ _ rd rfl (fun _ _ _ h => h))
    · obtain rfl : kmb1 = o := Option.some.inj ho
      exact wp_valueZ (v := .pointer (some ⟨p.b, 0, none⟩)) (w' := X) (by simp [execOp, kmb1, fY2, ldTb rB]) (hKK _ _ rd rfl (fun _ _ _ h => h))
    · obtain rfl : kmb2 = o := Option.some.inj ho
      have d0 : a.eval (.tmp 32) = .pointer (some ⟨p.b, 0, none⟩) := haft ⟨1, .data⟩ (by simp [kmb2]) rfl
      exact wp_valueZ (v := .pointer (some ⟨p.b, 0, none⟩)) (w' := X) (by simp [execOp, kmb2, d0]) (hKK _ _ rd rfl (fun _ _ _ h => h))
    · obtain rfl : kmb3 = o := Option.some.inj ho
      have d0 : a.eval (.tmp 33) = .pointer (some ⟨p.b, 0, none⟩) := haft ⟨2, .data⟩ (by simp [kmb3]) rfl
      exact wp_valueZ (v := .pointer (some ⟨p.b, 5, none⟩)) (w' := X) (by simp [execOp, kmb3, d0, fldT5]) (hKK _ _ rd rfl (fun _ _ _ h => h))
    · obtain rfl : kmb4 = o := Option.some.inj ho
      have d0 : a.eval (.tmp 34) = .pointer (some ⟨p.b, 5, none⟩) := haft ⟨3, .data⟩ (by simp [kmb4]) rfl
      exact wp_valueZ (v := .slice p.ar s.rows.length p.cr) (w' := X) (by simp [execOp, kmb4, d0, ldLi r5]) (hKK _ _ rd rfl (fun _ _ _ h => h))
    · obtain rfl : kmb5 = o := Option.some.inj ho
      exact wp_valueZ (v := .int .i64 (P : Int)) (w' := X) (by simp [execOp, kmb5, fY1]) (hKK _ _ rd rfl (fun _ _ _ h => h))
    · obtain rfl : kmb6 = o := Option.some.inj ho
      have d0 : a.eval (.tmp 36) = .int .i64 (P : Int) := haft ⟨5, .data⟩ (by simp [kmb6]) rfl
      exact wp_valueZ (v := .slice (some ⟨X.heap.size, 0, none⟩) 1 1) (w' := X.alloc (.cells #[.int .i64 (P : Int)] 3)) (by simp [execOp, kmb6, d0, run_litI]) (hKK _ _ (rd.below (ballo _ _) (fun i b e => (h.lt e).2)) ⟨_, rfl, by rw [hN0]; exact rd.1.bx.size, by simp⟩ (fun j u _ ht => kmbT_below N0 B p s bx P (ballo _ _) ht))
    · obtain rfl : kmb7 = o := Option.some.inj ho
      have d0 : a.eval (.tmp 35) = .slice p.ar s.rows.length p.cr := haft ⟨4, .data⟩ (by simp [kmb7]) rfl
      obtain ⟨N, d1, hN, hc⟩ := haft ⟨6, .data⟩ (by simp [kmb7]) rfl
      have hT := (rd.2 (hbw rfl)).to h
      obtain ⟨a', c', X', hr, h1, h2, h3⟩ := push_ni 57 hT.rw hc rfl hR (Nat.le_trans hB rd.1.bx.size)
      exact wp_valueZ (run_pushV rfl d0 d1 hr) (hKK _ _ ⟨rd.1.grown h2 (fun i b e => (h.lt e).2) h.dis, fun e => by cases e⟩ ⟨a', c', rfl, h1, fun k hk => (h3 k hk).imp id fun e => by rw [hN0]; exact Nat.le_trans rd.1.bx.size e⟩ (fun j u hj ht => kmbT_gr N0 B p s bx P (fun N x hN hx => h2.cell hx (fun q => by have := h.lt (i := 5) (k := N) q.symm; omega)) hj ht))
    · obtain rfl : kmb8 = o := Option.some.inj ho
      have d0 : a.eval (.tmp 31) = .pointer (some ⟨p.b, 0, none⟩) := haft ⟨0, .data⟩ (by simp [kmb8]) rfl
      exact wp_valueZ (v := .pointer (some ⟨p.b, 0, none⟩)) (w' := X) (by simp [execOp, kmb8, d0]) (hKK _ _ rd rfl (fun _ _ _ h => h))
    · obtain rfl : kmb9 = o := Option.some.inj ho
      have d0 : a.eval (.tmp 39) = .pointer (some ⟨p.b, 0, none⟩) := haft ⟨8, .data⟩ (by simp [kmb9]) rfl
      exact wp_valueZ (v := .pointer (some ⟨p.b, 5, none⟩)) (w' := X) (by simp [execOp, kmb9, d0, fldT5]) (hKK _ _ rd rfl (fun _ _ _ h => h))
  · intro a X b E KK hKK
    have rd := E.rd
    have rB : X.cell? ⟨bx, 0, none⟩ = some (.pointer (some ⟨p.b, 0, none⟩)) := rd.1.oth nbx hbx
    have r5 : X.cell? ⟨p.b, 5, none⟩ = (toC p s)[5]? := rd.1.cell h (by decide) 5
    have hR0 : a.tmps.size = a0.tmps.size ∧ a.defers = a0.defers ∧ ∀ t, (∀ j, j < 10 → [31, 32, 33, 34, 35, 36, 37, 38, 39, 40].getD j 0 ≠ t) → a.eval (.tmp t) = a0.eval (.tmp t) := ⟨E.sz, E.df, E.ag⟩
    have e0 : a.eval (.tmp 40) = .pointer (some ⟨p.b, 5, none⟩) := E.vs 9 (by decide) trivial
    have e1 : (kmbT N0 B p s bx P) 7 (a.eval (.tmp 38)) X := E.vs 7 (by decide) trivial
    clear E fin
    obtain ⟨a', c', e1', g1, g2⟩ := e1
    have hf := rd.1.frz h (by decide) 5
    obtain ⟨q1, q2, q3⟩ := h.new5 (w1 := X) (by rw [e1'] at g1; exact g1) rd.1 (by rw [hN0] at g2; exact g2)
    refine wp_skipZ (w' := X.setCell ⟨p.b, 5, none⟩ (.slice a' (s.rows ++ [P]).length c')) (by simp [execOp, kmb10, e0, e1', stLi r5 hf]) ?_
    exact hKK _ _ ⟨hR0, a', c', q1, q2, q3⟩
set_option maxRecDepth 100000 in
set_option maxHeartbeats 8000000 in
theorem kmb_region {Q : Exit → Act → World → Prop} (W : World) (N0 B : Nat) (p : Tl) (s : Ts) (bx P : Nat) (ds : List Deferred) (t0 t3 t4 t5 t6 t7 t8 t9 t10 t11 t12 t13 t14 t15 t16 t17 t18 t19 t20 t21 t22 t23 t24 t25 t26 t27 t28 t29 t30 t31 t32 t33 t34 t35 t36 t37 t38 t39 t40 t41 t42 t43 t44 t45 t46 t47 t48 t49 t50 t51 t52 t53 t54 t55 t56 t57 t58 t59 t60 t61 t62 t63 t64 t65 t66 t67 t68 t69 t70 t71 t72 t73 t74 t75 t76 t77 t78 t79 t80 t81 t82 t83 t84 t85 t86 t87 t88 t89 t90 t91 t92 t93 t94 t95 t96 t97 t98 t99 t100 t101 t102 t103 t104 t105 t106 t107 t108 t109 t110 t111 t112 : Value)
    (hN0 : N0 = W.heap.size) (h : To B W p s) (hbx : W.cell? ⟨bx, 0, none⟩ = some (.pointer (some ⟨p.b, 0, none⟩))) (nbx : ¬ p.has bx) (hR : s.rows.length ≤ 1000000) (hB : B ≤ W.heap.size)
    (fin : ∀ X (u31 u32 u33 u34 u35 u36 u37 u38 u39 u40 : Value), (fun Z => ∃ a' c', To B Z { p with ar := a', cr := c' } { s with rows := s.rows ++ [P] } ∧ Bx p.has W Z ∧ Gw p { p with ar := a', cr := c' } W.heap.size) X → Q .normal ⟨#[t0, .int .i64 (P : Int), .pointer (some ⟨bx, 0, none⟩), t3, t4, t5, t6, t7, t8, t9, t10, t11, t12, t13, t14, t15, t16, t17, t18, t19, t20, t21, t22, t23, t24, t25, t26, t27, t28, t29, t30, u31, u32, u33, u34, u35, u36, u37, u38, u39, u40, t41, t42, t43, t44, t45, t46, t47, t48, t49, t50, t51, t52, t53, t54, t55, t56, t57, t58, t59, t60, t61, t62, t63, t64, t65, t66, t67, t68, t69, t70, t71, t72, t73, t74, t75, t76, t77, t78, t79, t80, t81, t82, t83, t84, t85, t86, t87, t88, t89, t90, t91, t92, t93, t94, t95, t96, t97, t98, t99, t100, t101, t102, t103, t104, t105, t106, t107, t108, t109, t110, t111, t112], ds⟩ X) :
    (Code.region 3 kmbOps true).wp Try.prog Q ⟨#[t0, .int .i64 (P : Int), .pointer (some ⟨bx, 0, none⟩), t3, t4, t5, t6, t7, t8, t9, t10, t11, t12, t13, t14, t15, t16, t17, t18, t19, t20, t21, t22, t23, t24, t25, t26, t27, t28, t29, t30, t31, t32, t33, t34, t35, t36, t37, t38, t39, t40, t41, t42, t43, t44, t45, t46, t47, t48, t49, t50, t51, t52, t53, t54, t55, t56, t57, t58, t59, t60, t61, t62, t63, t64, t65, t66, t67, t68, t69, t70, t71, t72, t73, t74, t75, t76, t77, t78, t79, t80, t81, t82, t83, t84, t85, t86, t87, t88, t89, t90, t91, t92, t93, t94, t95, t96, t97, t98, t99, t100, t101, t102, t103, t104, t105, t106, t107, t108, t109, t110, t111, t112], ds⟩ W := by
  obtain ⟨a0, ha0⟩ : ∃ a0 : Act, a0 = ⟨#[t0, .int .i64 (P : Int), .pointer (some ⟨bx, 0, none⟩), t3, t4, t5, t6, t7, t8, t9, t10, t11, t12, t13, t14, t15, t16, t17, t18, t19, t20, t21, t22, t23, t24, t25, t26, t27, t28, t29, t30, t31, t32, t33, t34, t35, t36, t37, t38, t39, t40, t41, t42, t43, t44, t45, t46, t47, t48, t49, t50, t51, t52, t53, t54, t55, t56, t57, t58, t59, t60, t61, t62, t63, t64, t65, t66, t67, t68, t69, t70, t71, t72, t73, t74, t75, t76, t77, t78, t79, t80, t81, t82, t83, t84, t85, t86, t87, t88, t89, t90, t91, t92, t93, t94, t95, t96, t97, t98, t99, t100, t101, t102, t103, t104, t105, t106, t107, t108, t109, t110, t111, t112], ds⟩ := ⟨_, rfl⟩
  have hs0 : a0.tmps.size = 113 := by rw [ha0]; rfl
  have hd0 : a0.defers = ds := by rw [ha0]
  have gY0 : a0.eval (.tmp 0) = t0 := by rw [ha0]; rfl
  have gY1 : a0.eval (.tmp 1) = .int .i64 (P : Int) := by rw [ha0]; rfl
  have gY2 : a0.eval (.tmp 2) = .pointer (some ⟨bx, 0, none⟩) := by rw [ha0]; rfl
  have gY3 : a0.eval (.tmp 3) = t3 := by rw [ha0]; rfl
  have gY4 : a0.eval (.tmp 4) = t4 := by rw [ha0]; rfl
  have gY5 : a0.eval (.tmp 5) = t5 := by rw [ha0]; rfl
  have gY6 : a0.eval (.tmp 6) = t6 := by rw [ha0]; rfl
  have gY7 : a0.eval (.tmp 7) = t7 := by rw [ha0]; rfl
  have gY8 : a0.eval (.tmp 8) = t8 := by rw [ha0]; rfl
  have gY9 : a0.eval (.tmp 9) = t9 := by rw [ha0]; rfl
  have gY10 : a0.eval (.tmp 10) = t10 := by rw [ha0]; rfl
  have gY11 : a0.eval (.tmp 11) = t11 := by rw [ha0]; rfl
  have gY12 : a0.eval (.tmp 12) = t12 := by rw [ha0]; rfl
  have gY13 : a0.eval (.tmp 13) = t13 := by rw [ha0]; rfl
  have gY14 : a0.eval (.tmp 14) = t14 := by rw [ha0]; rfl
  have gY15 : a0.eval (.tmp 15) = t15 := by rw [ha0]; rfl
  have gY16 : a0.eval (.tmp 16) = t16 := by rw [ha0]; rfl
  have gY17 : a0.eval (.tmp 17) = t17 := by rw [ha0]; rfl
  have gY18 : a0.eval (.tmp 18) = t18 := by rw [ha0]; rfl
  have gY19 : a0.eval (.tmp 19) = t19 := by rw [ha0]; rfl
  have gY20 : a0.eval (.tmp 20) = t20 := by rw [ha0]; rfl
  have gY21 : a0.eval (.tmp 21) = t21 := by rw [ha0]; rfl
  have gY22 : a0.eval (.tmp 22) = t22 := by rw [ha0]; rfl
  have gY23 : a0.eval (.tmp 23) = t23 := by rw [ha0]; rfl
  have gY24 : a0.eval (.tmp 24) = t24 := by rw [ha0]; rfl
  have gY25 : a0.eval (.tmp 25) = t25 := by rw [ha0]; rfl
  have gY26 : a0.eval (.tmp 26) = t26 := by rw [ha0]; rfl
  have gY27 : a0.eval (.tmp 27) = t27 := by rw [ha0]; rfl
  have gY28 : a0.eval (.tmp 28) = t28 := by rw [ha0]; rfl
  have gY29 : a0.eval (.tmp 29) = t29 := by rw [ha0]; rfl
  have gY30 : a0.eval (.tmp 30) = t30 := by rw [ha0]; rfl
  have gY41 : a0.eval (.tmp 41) = t41 := by rw [ha0]; rfl
  have gY42 : a0.eval (.tmp 42) = t42 := by rw [ha0]; rfl
  have gY43 : a0.eval (.tmp 43) = t43 := by rw [ha0]; rfl
  have gY44 : a0.eval (.tmp 44) = t44 := by rw [ha0]; rfl
  have gY45 : a0.eval (.tmp 45) = t45 := by rw [ha0]; rfl
  have gY46 : a0.eval (.tmp 46) = t46 := by rw [ha0]; rfl
  have gY47 : a0.eval (.tmp 47) = t47 := by rw [ha0]; rfl
  have gY48 : a0.eval (.tmp 48) = t48 := by rw [ha0]; rfl
  have gY49 : a0.eval (.tmp 49) = t49 := by rw [ha0]; rfl
  have gY50 : a0.eval (.tmp 50) = t50 := by rw [ha0]; rfl
  have gY51 : a0.eval (.tmp 51) = t51 := by rw [ha0]; rfl
  have gY52 : a0.eval (.tmp 52) = t52 := by rw [ha0]; rfl
  have gY53 : a0.eval (.tmp 53) = t53 := by rw [ha0]; rfl
  have gY54 : a0.eval (.tmp 54) = t54 := by rw [ha0]; rfl
  have gY55 : a0.eval (.tmp 55) = t55 := by rw [ha0]; rfl
  have gY56 : a0.eval (.tmp 56) = t56 := by rw [ha0]; rfl
  have gY57 : a0.eval (.tmp 57) = t57 := by rw [ha0]; rfl
  have gY58 : a0.eval (.tmp 58) = t58 := by rw [ha0]; rfl
  have gY59 : a0.eval (.tmp 59) = t59 := by rw [ha0]; rfl
  have gY60 : a0.eval (.tmp 60) = t60 := by rw [ha0]; rfl
  have gY61 : a0.eval (.tmp 61) = t61 := by rw [ha0]; rfl
  have gY62 : a0.eval (.tmp 62) = t62 := by rw [ha0]; rfl
  have gY63 : a0.eval (.tmp 63) = t63 := by rw [ha0]; rfl
  have gY64 : a0.eval (.tmp 64) = t64 := by rw [ha0]; rfl
  have gY65 : a0.eval (.tmp 65) = t65 := by rw [ha0]; rfl
  have gY66 : a0.eval (.tmp 66) = t66 := by rw [ha0]; rfl
  have gY67 : a0.eval (.tmp 67) = t67 := by rw [ha0]; rfl
  have gY68 : a0.eval (.tmp 68) = t68 := by rw [ha0]; rfl
  have gY69 : a0.eval (.tmp 69) = t69 := by rw [ha0]; rfl
  have gY70 : a0.eval (.tmp 70) = t70 := by rw [ha0]; rfl
  have gY71 : a0.eval (.tmp 71) = t71 := by rw [ha0]; rfl
  have gY72 : a0.eval (.tmp 72) = t72 := by rw [ha0]; rfl
  have gY73 : a0.eval (.tmp 73) = t73 := by rw [ha0]; rfl
  have gY74 : a0.eval (.tmp 74) = t74 := by rw [ha0]; rfl
  have gY75 : a0.eval (.tmp 75) = t75 := by rw [ha0]; rfl
  have gY76 : a0.eval (.tmp 76) = t76 := by rw [ha0]; rfl
  have gY77 : a0.eval (.tmp 77) = t77 := by rw [ha0]; rfl
  have gY78 : a0.eval (.tmp 78) = t78 := by rw [ha0]; rfl
  have gY79 : a0.eval (.tmp 79) = t79 := by rw [ha0]; rfl
  have gY80 : a0.eval (.tmp 80) = t80 := by rw [ha0]; rfl
  have gY81 : a0.eval (.tmp 81) = t81 := by rw [ha0]; rfl
  have gY82 : a0.eval (.tmp 82) = t82 := by rw [ha0]; rfl
  have gY83 : a0.eval (.tmp 83) = t83 := by rw [ha0]; rfl
  have gY84 : a0.eval (.tmp 84) = t84 := by rw [ha0]; rfl
  have gY85 : a0.eval (.tmp 85) = t85 := by rw [ha0]; rfl
  have gY86 : a0.eval (.tmp 86) = t86 := by rw [ha0]; rfl
  have gY87 : a0.eval (.tmp 87) = t87 := by rw [ha0]; rfl
  have gY88 : a0.eval (.tmp 88) = t88 := by rw [ha0]; rfl
  have gY89 : a0.eval (.tmp 89) = t89 := by rw [ha0]; rfl
  have gY90 : a0.eval (.tmp 90) = t90 := by rw [ha0]; rfl
  have gY91 : a0.eval (.tmp 91) = t91 := by rw [ha0]; rfl
  have gY92 : a0.eval (.tmp 92) = t92 := by rw [ha0]; rfl
  have gY93 : a0.eval (.tmp 93) = t93 := by rw [ha0]; rfl
  have gY94 : a0.eval (.tmp 94) = t94 := by rw [ha0]; rfl
  have gY95 : a0.eval (.tmp 95) = t95 := by rw [ha0]; rfl
  have gY96 : a0.eval (.tmp 96) = t96 := by rw [ha0]; rfl
  have gY97 : a0.eval (.tmp 97) = t97 := by rw [ha0]; rfl
  have gY98 : a0.eval (.tmp 98) = t98 := by rw [ha0]; rfl
  have gY99 : a0.eval (.tmp 99) = t99 := by rw [ha0]; rfl
  have gY100 : a0.eval (.tmp 100) = t100 := by rw [ha0]; rfl
  have gY101 : a0.eval (.tmp 101) = t101 := by rw [ha0]; rfl
  have gY102 : a0.eval (.tmp 102) = t102 := by rw [ha0]; rfl
  have gY103 : a0.eval (.tmp 103) = t103 := by rw [ha0]; rfl
  have gY104 : a0.eval (.tmp 104) = t104 := by rw [ha0]; rfl
  have gY105 : a0.eval (.tmp 105) = t105 := by rw [ha0]; rfl
  have gY106 : a0.eval (.tmp 106) = t106 := by rw [ha0]; rfl
  have gY107 : a0.eval (.tmp 107) = t107 := by rw [ha0]; rfl
  have gY108 : a0.eval (.tmp 108) = t108 := by rw [ha0]; rfl
  have gY109 : a0.eval (.tmp 109) = t109 := by rw [ha0]; rfl
  have gY110 : a0.eval (.tmp 110) = t110 := by rw [ha0]; rfl
  have gY111 : a0.eval (.tmp 111) = t111 := by rw [ha0]; rfl
  have gY112 : a0.eval (.tmp 112) = t112 := by rw [ha0]; rfl
  rw [← ha0]
  refine kmb_core W N0 B p s bx P a0 hs0 gY1 gY2 hN0 h hbx nbx hR hB ?_
  clear ha0
  rintro a X ⟨es, ed, ag⟩ hF
  have hq := fin X (a.eval (.tmp 31)) (a.eval (.tmp 32)) (a.eval (.tmp 33)) (a.eval (.tmp 34)) (a.eval (.tmp 35)) (a.eval (.tmp 36)) (a.eval (.tmp 37)) (a.eval (.tmp 38)) (a.eval (.tmp 39)) (a.eval (.tmp 40)) hF
  have ea : a = ⟨#[a.eval (.tmp 0), a.eval (.tmp 1), a.eval (.tmp 2), a.eval (.tmp 3), a.eval (.tmp 4), a.eval (.tmp 5), a.eval (.tmp 6), a.eval (.tmp 7), a.eval (.tmp 8), a.eval (.tmp 9), a.eval (.tmp 10), a.eval (.tmp 11), a.eval (.tmp 12), a.eval (.tmp 13), a.eval (.tmp 14), a.eval (.tmp 15), a.eval (.tmp 16), a.eval (.tmp 17), a.eval (.tmp 18), a.eval (.tmp 19), a.eval (.tmp 20), a.eval (.tmp 21), a.eval (.tmp 22), a.eval (.tmp 23), a.eval (.tmp 24), a.eval (.tmp 25), a.eval (.tmp 26), a.eval (.tmp 27), a.eval (.tmp 28), a.eval (.tmp 29), a.eval (.tmp 30), a.eval (.tmp 31), a.eval (.tmp 32), a.eval (.tmp 33), a.eval (.tmp 34), a.eval (.tmp 35), a.eval (.tmp 36), a.eval (.tmp 37), a.eval (.tmp 38), a.eval (.tmp 39), a.eval (.tmp 40), a.eval (.tmp 41), a.eval (.tmp 42), a.eval (.tmp 43), a.eval (.tmp 44), a.eval (.tmp 45), a.eval (.tmp 46), a.eval (.tmp 47), a.eval (.tmp 48), a.eval (.tmp 49), a.eval (.tmp 50), a.eval (.tmp 51), a.eval (.tmp 52), a.eval (.tmp 53), a.eval (.tmp 54), a.eval (.tmp 55), a.eval (.tmp 56), a.eval (.tmp 57), a.eval (.tmp 58), a.eval (.tmp 59), a.eval (.tmp 60), a.eval (.tmp 61), a.eval (.tmp 62), a.eval (.tmp 63), a.eval (.tmp 64), a.eval (.tmp 65), a.eval (.tmp 66), a.eval (.tmp 67), a.eval (.tmp 68), a.eval (.tmp 69), a.eval (.tmp 70), a.eval (.tmp 71), a.eval (.tmp 72), a.eval (.tmp 73), a.eval (.tmp 74), a.eval (.tmp 75), a.eval (.tmp 76), a.eval (.tmp 77), a.eval (.tmp 78), a.eval (.tmp 79), a.eval (.tmp 80), a.eval (.tmp 81), a.eval (.tmp 82), a.eval (.tmp 83), a.eval (.tmp 84), a.eval (.tmp 85), a.eval (.tmp 86), a.eval (.tmp 87), a.eval (.tmp 88), a.eval (.tmp 89), a.eval (.tmp 90), a.eval (.tmp 91), a.eval (.tmp 92), a.eval (.tmp 93), a.eval (.tmp 94), a.eval (.tmp 95), a.eval (.tmp 96), a.eval (.tmp 97), a.eval (.tmp 98), a.eval (.tmp 99), a.eval (.tmp 100), a.eval (.tmp 101), a.eval (.tmp 102), a.eval (.tmp 103), a.eval (.tmp 104), a.eval (.tmp 105), a.eval (.tmp 106), a.eval (.tmp 107), a.eval (.tmp 108), a.eval (.tmp 109), a.eval (.tmp 110), a.eval (.tmp 111), a.eval (.tmp 112)], a.defers⟩ := act_eta a 113 (es.trans hs0)
  rw [ea, ed, hd0]
  have kY0 : a.eval (.tmp 0) = t0 := (ag 0 (by decide)).trans gY0
  have kY1 : a.eval (.tmp 1) = .int .i64 (P : Int) := (ag 1 (by decide)).trans gY1
  have kY2 : a.eval (.tmp 2) = .pointer (some ⟨bx, 0, none⟩) := (ag 2 (by decide)).trans gY2
  have kY3 : a.eval (.tmp 3) = t3 := (ag 3 (by decide)).trans gY3
  have kY4 : a.eval (.tmp 4) = t4 := (ag 4 (by decide)).trans gY4
  have kY5 : a.eval (.tmp 5) = t5 := (ag 5 (by decide)).trans gY5
  have kY6 : a.eval (.tmp 6) = t6 := (ag 6 (by decide)).trans gY6
  have kY7 : a.eval (.tmp 7) = t7 := (ag 7 (by decide)).trans gY7
  have kY8 : a.eval (.tmp 8) = t8 := (ag 8 (by decide)).trans gY8
  have kY9 : a.eval (.tmp 9) = t9 := (ag 9 (by decide)).trans gY9
  have kY10 : a.eval (.tmp 10) = t10 := (ag 10 (by decide)).trans gY10
  have kY11 : a.eval (.tmp 11) = t11 := (ag 11 (by decide)).trans gY11
  have kY12 : a.eval (.tmp 12) = t12 := (ag 12 (by decide)).trans gY12
  have kY13 : a.eval (.tmp 13) = t13 := (ag 13 (by decide)).trans gY13
  have kY14 : a.eval (.tmp 14) = t14 := (ag 14 (by decide)).trans gY14
  have kY15 : a.eval (.tmp 15) = t15 := (ag 15 (by decide)).trans gY15
  have kY16 : a.eval (.tmp 16) = t16 := (ag 16 (by decide)).trans gY16
  have kY17 : a.eval (.tmp 17) = t17 := (ag 17 (by decide)).trans gY17
  have kY18 : a.eval (.tmp 18) = t18 := (ag 18 (by decide)).trans gY18
  have kY19 : a.eval (.tmp 19) = t19 := (ag 19 (by decide)).trans gY19
  have kY20 : a.eval (.tmp 20) = t20 := (ag 20 (by decide)).trans gY20
  have kY21 : a.eval (.tmp 21) = t21 := (ag 21 (by decide)).trans gY21
  have kY22 : a.eval (.tmp 22) = t22 := (ag 22 (by decide)).trans gY22
  have kY23 : a.eval (.tmp 23) = t23 := (ag 23 (by decide)).trans gY23
  have kY24 : a.eval (.tmp 24) = t24 := (ag 24 (by decide)).trans gY24
  have kY25 : a.eval (.tmp 25) = t25 := (ag 25 (by decide)).trans gY25
  have kY26 : a.eval (.tmp 26) = t26 := (ag 26 (by decide)).trans gY26
  have kY27 : a.eval (.tmp 27) = t27 := (ag 27 (by decide)).trans gY27
  have kY28 : a.eval (.tmp 28) = t28 := (ag 28 (by decide)).trans gY28
  have kY29 : a.eval (.tmp 29) = t29 := (ag 29 (by decide)).trans gY29
  have kY30 : a.eval (.tmp 30) = t30 := (ag 30 (by decide)).trans gY30
  have kY41 : a.eval (.tmp 41) = t41 := (ag 41 (by decide)).trans gY41
  have kY42 : a.eval (.tmp 42) = t42 := (ag 42 (by decide)).trans gY42
  have kY43 : a.eval (.tmp 43) = t43 := (ag 43 (by decide)).trans gY43
  have kY44 : a.eval (.tmp 44) = t44 := (ag 44 (by decide)).trans gY44
  have kY45 : a.eval (.tmp 45) = t45 := (ag 45 (by decide)).trans gY45
  have kY46 : a.eval (.tmp 46) = t46 := (ag 46 (by decide)).trans gY46
  have kY47 : a.eval (.tmp 47) = t47 := (ag 47 (by decide)).trans gY47
  have kY48 : a.eval (.tmp 48) = t48 := (ag 48 (by decide)).trans gY48
  have kY49 : a.eval (.tmp 49) = t49 := (ag 49 (by decide)).trans gY49
  have kY50 : a.eval (.tmp 50) = t50 := (ag 50 (by decide)).trans gY50
  have kY51 : a.eval (.tmp 51) = t51 := (ag 51 (by decide)).trans gY51
  have kY52 : a.eval (.tmp 52) = t52 := (ag 52 (by decide)).trans gY52
  have kY53 : a.eval (.tmp 53) = t53 := (ag 53 (by decide)).trans gY53
  have kY54 : a.eval (.tmp 54) = t54 := (ag 54 (by decide)).trans gY54
  have kY55 : a.eval (.tmp 55) = t55 := (ag 55 (by decide)).trans gY55
  have kY56 : a.eval (.tmp 56) = t56 := (ag 56 (by decide)).trans gY56
  have kY57 : a.eval (.tmp 57) = t57 := (ag 57 (by decide)).trans gY57
  have kY58 : a.eval (.tmp 58) = t58 := (ag 58 (by decide)).trans gY58
  have kY59 : a.eval (.tmp 59) = t59 := (ag 59 (by decide)).trans gY59
  have kY60 : a.eval (.tmp 60) = t60 := (ag 60 (by decide)).trans gY60
  have kY61 : a.eval (.tmp 61) = t61 := (ag 61 (by decide)).trans gY61
  have kY62 : a.eval (.tmp 62) = t62 := (ag 62 (by decide)).trans gY62
  have kY63 : a.eval (.tmp 63) = t63 := (ag 63 (by decide)).trans gY63
  have kY64 : a.eval (.tmp 64) = t64 := (ag 64 (by decide)).trans gY64
  have kY65 : a.eval (.tmp 65) = t65 := (ag 65 (by decide)).trans gY65
  have kY66 : a.eval (.tmp 66) = t66 := (ag 66 (by decide)).trans gY66
  have kY67 : a.eval (.tmp 67) = t67 := (ag 67 (by decide)).trans gY67
  have kY68 : a.eval (.tmp 68) = t68 := (ag 68 (by decide)).trans gY68
  have kY69 : a.eval (.tmp 69) = t69 := (ag 69 (by decide)).trans gY69
  have kY70 : a.eval (.tmp 70) = t70 := (ag 70 (by decide)).trans gY70
  have kY71 : a.eval (.tmp 71) = t71 := (ag 71 (by decide)).trans gY71
  have kY72 : a.eval (.tmp 72) = t72 := (ag 72 (by decide)).trans gY72
  have kY73 : a.eval (.tmp 73) = t73 := (ag 73 (by decide)).trans gY73
  have kY74 : a.eval (.tmp 74) = t74 := (ag 74 (by decide)).trans gY74
  have kY75 : a.eval (.tmp 75) = t75 := (ag 75 (by decide)).trans gY75
  have kY76 : a.eval (.tmp 76) = t76 := (ag 76 (by decide)).trans gY76
  have kY77 : a.eval (.tmp 77) = t77 := (ag 77 (by decide)).trans gY77
  have kY78 : a.eval (.tmp 78) = t78 := (ag 78 (by decide)).trans gY78
  have kY79 : a.eval (.tmp 79) = t79 := (ag 79 (by decide)).trans gY79
  have kY80 : a.eval (.tmp 80) = t80 := (ag 80 (by decide)).trans gY80
  have kY81 : a.eval (.tmp 81) = t81 := (ag 81 (by decide)).trans gY81
  have kY82 : a.eval (.tmp 82) = t82 := (ag 82 (by decide)).trans gY82
  have kY83 : a.eval (.tmp 83) = t83 := (ag 83 (by decide)).trans gY83
  have kY84 : a.eval (.tmp 84) = t84 := (ag 84 (by decide)).trans gY84
  have kY85 : a.eval (.tmp 85) = t85 := (ag 85 (by decide)).trans gY85
  have kY86 : a.eval (.tmp 86) = t86 := (ag 86 (by decide)).trans gY86
  have kY87 : a.eval (.tmp 87) = t87 := (ag 87 (by decide)).trans gY87
  have kY88 : a.eval (.tmp 88) = t88 := (ag 88 (by decide)).trans gY88
  have kY89 : a.eval (.tmp 89) = t89 := (ag 89 (by decide)).trans gY89
  have kY90 : a.eval (.tmp 90) = t90 := (ag 90 (by decide)).trans gY90
  have kY91 : a.eval (.tmp 91) = t91 := (ag 91 (by decide)).trans gY91
  have kY92 : a.eval (.tmp 92) = t92 := (ag 92 (by decide)).trans gY92
  have kY93 : a.eval (.tmp 93) = t93 := (ag 93 (by decide)).trans gY93
  have kY94 : a.eval (.tmp 94) = t94 := (ag 94 (by decide)).trans gY94
  have kY95 : a.eval (.tmp 95) = t95 := (ag 95 (by decide)).trans gY95
  have kY96 : a.eval (.tmp 96) = t96 := (ag 96 (by decide)).trans gY96
  have kY97 : a.eval (.tmp 97) = t97 := (ag 97 (by decide)).trans gY97
  have kY98 : a.eval (.tmp 98) = t98 := (ag 98 (by decide)).trans gY98
  have kY99 : a.eval (.tmp 99) = t99 := (ag 99 (by decide)).trans gY99
  have kY100 : a.eval (.tmp 100) = t100 := (ag 100 (by decide)).trans gY100
  have kY101 : a.eval (.tmp 101) = t101 := (ag 101 (by decide)).trans gY101
  have kY102 : a.eval (.tmp 102) = t102 := (ag 102 (by decide)).trans gY102
  have kY103 : a.eval (.tmp 103) = t103 := (ag 103 (by decide)).trans gY103
  have kY104 : a.eval (.tmp 104) = t104 := (ag 104 (by decide)).trans gY104
  have kY105 : a.eval (.tmp 105) = t105 := (ag 105 (by decide)).trans gY105
  have kY106 : a.eval (.tmp 106) = t106 := (ag 106 (by decide)).trans gY106
  have kY107 : a.eval (.tmp 107) = t107 := (ag 107 (by decide)).trans gY107
  have kY108 : a.eval (.tmp 108) = t108 := (ag 108 (by decide)).trans gY108
  have kY109 : a.eval (.tmp 109) = t109 := (ag 109 (by decide)).trans gY109
  have kY110 : a.eval (.tmp 110) = t110 := (ag 110 (by decide)).trans gY110
  have kY111 : a.eval (.tmp 111) = t111 := (ag 111 (by decide)).trans gY111
  have kY112 : a.eval (.tmp 112) = t112 := (ag 112 (by decide)).trans gY112
  rw [kY0, kY1, kY2, kY3, kY4, kY5, kY6, kY7, kY8, kY9, kY10, kY11, kY12, kY13, kY14, kY15, kY16, kY17, kY18, kY19, kY20, kY21, kY22, kY23, kY24, kY25, kY26, kY27, kY28, kY29, kY30, kY41, kY42, kY43, kY44, kY45, kY46, kY47, kY48, kY49, kY50, kY51, kY52, kY53, kY54, kY55, kY56, kY57, kY58, kY59, kY60, kY61, kY62, kY63, kY64, kY65, kY66, kY67, kY68, kY69, kY70, kY71, kY72, kY73, kY74, kY75, kY76, kY77, kY78, kY79, kY80, kY81, kY82, kY83, kY84, kY85, kY86, kY87, kY88, kY89, kY90, kY91, kY92, kY93, kY94, kY95, kY96, kY97, kY98, kY99, kY100, kY101, kY102, kY103, kY104, kY105, kY106, kY107, kY108, kY109, kY110, kY111, kY112]
  exact hq
theorem run_bldL {w : World} (s : ByteArray) : (Instr.build 54 #[(0, .string s)]).run Try.prog w = .ok (.agg #[.string s, .int .i64 0, .int .i64 0, .int .i64 0]) w := by
  go_simp
def kmc0 : Oper := { dst := some 68, op := Op.load 23 (Operand.tmp 2), type := 23, pos := "line.go:57", after := #[], guard := none }
def kmc1 : Oper := { dst := some 69, op := Op.load 23 (Operand.tmp 2), type := 23, pos := "line.go:57", after := #[], guard := none }
def kmc2 : Oper := { dst := some 70, op := Op.nilCheck (Operand.tmp 69), type := 0, pos := "line.go:57", after := #[{ on := 1, ground := Ground.data }], guard := none }
def kmc3 : Oper := { dst := some 71, op := Op.fieldAddr 62 (Operand.tmp 70) 4, type := 0, pos := "line.go:57", after := #[{ on := 2, ground := Ground.data }], guard := none }
def kmc4 : Oper := { dst := some 72, op := Op.load 56 (Operand.tmp 71), type := 56, pos := "line.go:57", after := #[{ on := 3, ground := Ground.data }], guard := none }
def kmc5 : Oper := { dst := some 73, op := Op.move (Operand.tmp 4), type := 47, pos := "line.go:57", after := #[], guard := none }
def kmc6 : Oper := { dst := some 74, op := Op.move (Operand.tmp 8), type := 3, pos := "line.go:57", after := #[], guard := none }
def kmc7 : Oper := { dst := some 75, op := Op.call { callee := Callee.value (Operand.func 57), args := #[Operand.tmp 74], argTypes := #[3] }, type := 47, pos := "line.go:57", after := #[{ on := 6, ground := Ground.data }], guard := none }
def kmc8 : Oper := { dst := some 76, op := Op.binOp BinOp.add 47 (Operand.tmp 73) (Operand.tmp 75) 47, type := 47, pos := "line.go:57", after := #[{ on := 5, ground := Ground.data }, { on := 7, ground := Ground.data }], guard := none }
def kmc9 : Oper := { dst := some 77, op := Op.build 54 #[(0, Operand.tmp 76)], type := 54, pos := "line.go:57", after := #[{ on := 8, ground := Ground.data }], guard := none }
def kmc10 : Oper := { dst := some 78, op := Op.buildSlice 56 1 #[(0, Operand.tmp 77)], type := 56, pos := "line.go:57", after := #[{ on := 9, ground := Ground.data }], guard := none }
def kmc11 : Oper := { dst := some 79, op := Op.call { callee := Callee.builtin Builtin.append, args := #[Operand.tmp 72, Operand.tmp 78], argTypes := #[56, 56] }, type := 56, pos := "line.go:57", after := #[{ on := 4, ground := Ground.data }, { on := 10, ground := Ground.data }, { on := 7, ground := Ground.chain }], guard := none }
def kmc12 : Oper := { dst := some 80, op := Op.nilCheck (Operand.tmp 68), type := 0, pos := "line.go:57", after := #[{ on := 0, ground := Ground.data }, { on := 0, ground := Ground.phase }, { on := 1, ground := Ground.phase }, { on := 2, ground := Ground.phase }, { on := 3, ground := Ground.phase }, { on := 4, ground := Ground.phase }, { on := 5, ground := Ground.phase }, { on := 6, ground := Ground.phase }, { on := 7, ground := Ground.phase }, { on := 8, ground := Ground.phase }, { on := 9, ground := Ground.phase }, { on := 10, ground := Ground.phase }, { on := 11, ground := Ground.phase }], guard := none }
def kmc13 : Oper := { dst := some 81, op := Op.fieldAddr 62 (Operand.tmp 80) 4, type := 0, pos := "line.go:57", after := #[{ on := 12, ground := Ground.data }, { on := 0, ground := Ground.phase }, { on := 1, ground := Ground.phase }, { on := 2, ground := Ground.phase }, { on := 3, ground := Ground.phase }, { on := 4, ground := Ground.phase }, { on := 5, ground := Ground.phase }, { on := 6, ground := Ground.phase }, { on := 7, ground := Ground.phase }, { on := 8, ground := Ground.phase }, { on := 9, ground := Ground.phase }, { on := 10, ground := Ground.phase }, { on := 11, ground := Ground.phase }], guard := none }
def kmc14 : Oper := { dst := none, op := Op.store 56 (Operand.tmp 81) (Operand.tmp 79), type := 0, pos := "line.go:57", after := #[{ on := 13, ground := Ground.data }, { on := 11, ground := Ground.data }, { on := 11, ground := Ground.chain }, { on := 0, ground := Ground.phase }, { on := 1, ground := Ground.phase }, { on := 2, ground := Ground.phase }, { on := 3, ground := Ground.phase }, { on := 4, ground := Ground.phase }, { on := 5, ground := Ground.phase }, { on := 6, ground := Ground.phase }, { on := 7, ground := Ground.phase }, { on := 8, ground := Ground.phase }, { on := 9, ground := Ground.phase }, { on := 10, ground := Ground.phase }, { on := 11, ground := Ground.phase }], guard := none }
def kmcOps : Array Oper := #[kmc0, kmc1, kmc2, kmc3, kmc4, kmc5, kmc6, kmc7, kmc8, kmc9, kmc10, kmc11, kmc12, kmc13, kmc14]

def kmcT (N0 B : Nat) (p : Tl) (s : Ts) (bx : Nat) (wd : List Int) (x : Nat) : Nat → Value → World → Prop
  | 0, v, _ => v = .pointer (some ⟨p.b, 0, none⟩)
  | 1, v, _ => v = .pointer (some ⟨p.b, 0, none⟩)
  | 2, v, _ => v = .pointer (some ⟨p.b, 0, none⟩)
  | 3, v, _ => v = .pointer (some ⟨p.b, 4, none⟩)
  | 4, v, _ => v = .slice (some ⟨p.gl, 0, none⟩) s.ls.length p.cl
  | 5, v, _ => v = .string (sp wd)
  | 6, v, _ => v = .int .i64 (x : Int)
  | 7, v, _ => v = .string (sp [(x : Int)])
  | 8, v, _ => v = .string (sp (wd ++ [(x : Int)]))
  | 9, v, _ => v = .agg #[.string (sp (wd ++ [(x : Int)])), .int .i64 0, .int .i64 0, .int .i64 0]
  | 10, v, W => ∃ N, v = .slice (some ⟨N, 0, none⟩) 1 1 ∧ N0 ≤ N ∧ ∀ j u, (lnE (⟨wd ++ [(x : Int)], 0, 0, 0⟩ : Ln))[j]? = some u → W.cell? ⟨N, j, none⟩ = some u
  | 11, v, W => ∃ g' c', v = .slice (some ⟨g', 0, none⟩) (s.ls ++ [(⟨wd ++ [(x : Int)], 0, 0, 0⟩ : Ln)]).length c' ∧ OwnG 54 4 lnE W B v (s.ls ++ [(⟨wd ++ [(x : Int)], 0, 0, 0⟩ : Ln)]) ∧ (p.bk 3 = some g' ∨ N0 ≤ g')
  | 12, v, _ => v = .pointer (some ⟨p.b, 0, none⟩)
  | 13, v, _ => v = .pointer (some ⟨p.b, 4, none⟩)
  | _, _, _ => True
set_option maxRecDepth 100000 in
set_option maxHeartbeats 1000000 in
theorem kmc_ok : okS2 kmcOps [68, 69, 70, 71, 72, 73, 74, 75, 76, 77, 78, 79, 80, 81] = true := by kernel_rfl
theorem kmcT_below (N0 B : Nat) (p : Tl) (s : Ts) (bx : Nat) (wd : List Int) (x : Nat) {v : Value} {W W' : World} (hb : Below W.heap.size W W') : ∀ {i : Nat}, kmcT N0 B p s bx wd x i v W → kmcT N0 B p s bx wd x i v W'
  | 0, h => h
  | 1, h => h
  | 2, h => h
  | 3, h => h
  | 4, h => h
  | 5, h => h
  | 6, h => h
  | 7, h => h
  | 8, h => h
  | 9, h => h
  | 10, ⟨N, e, h1, h2⟩ => ⟨N, e, h1, fun j u hj => (hb.cell (World.block_lt_of_cell? W _ (h2 j u hj))).trans (h2 j u hj)⟩
  | 11, ⟨a', c', e, h1, h2⟩ => ⟨a', c', e, OwnG.below h1 hb, h2⟩
  | 12, h => h
  | 13, h => h
  | _ + 14, h => h
theorem kmcT_gr (N0 B : Nat) (p : Tl) (s : Ts) (bx : Nat) (wd : List Int) (x : Nat) {W W' : World} (hs : ∀ N j x, N0 ≤ N → W.cell? ⟨N, j, none⟩ = some x → W'.cell? ⟨N, j, none⟩ = some x) {v : Value} : ∀ {i : Nat}, i ≠ 11 → kmcT N0 B p s bx wd x i v W → kmcT N0 B p s bx wd x i v W'
  | 0, _, h => h
  | 1, _, h => h
  | 2, _, h => h
  | 3, _, h => h
  | 4, _, h => h
  | 5, _, h => h
  | 6, _, h => h
  | 7, _, h => h
  | 8, _, h => h
  | 9, _, h => h
  | 10, _, ⟨N, e, h1, h2⟩ => ⟨N, e, h1, fun j u hj => hs N j _ h1 (h2 j u hj)⟩
  | 11, n, _ => absurd rfl n
  | 12, _, h => h
  | 13, _, h => h
  | _ + 14, _, h => h
set_option maxRecDepth 100000 in
set_option maxHeartbeats 8000000 in
theorem kmc_core {Q : Exit → Act → World → Prop} (W : World) (N0 B : Nat) (p : Tl) (s : Ts) (bx : Nat) (wd : List Int) (x : Nat) (a0 : Act) (hs0 : a0.tmps.size = 113) (eY2 : a0.eval (.tmp 2) = .pointer (some ⟨bx, 0, none⟩)) (eY4 : a0.eval (.tmp 4) = .string (sp wd)) (eY8 : a0.eval (.tmp 8) = .int .i64 (x : Int))
    (hN0 : N0 = W.heap.size) (h : To B W p s) (hbx : W.cell? ⟨bx, 0, none⟩ = some (.pointer (some ⟨p.b, 0, none⟩))) (nbx : ¬ p.has bx) (hR : s.ls.length ≤ 1000000) (hB : B ≤ W.heap.size) (hwd : wd.length ≤ 8000000) (hx : x < 256)
    (fin : ∀ a X, (a.tmps.size = a0.tmps.size ∧ a.defers = a0.defers ∧ ∀ t, (∀ j, j < 14 → [68, 69, 70, 71, 72, 73, 74, 75, 76, 77, 78, 79, 80, 81].getD j 0 ≠ t) → a.eval (.tmp t) = a0.eval (.tmp t)) → (fun Z => ∃ g' c', To B Z { p with gl := g', cl := c' } { s with ls := s.ls ++ [(⟨wd ++ [(x : Int)], 0, 0, 0⟩ : Ln)] } ∧ Bx p.has W Z ∧ Gw p { p with gl := g', cl := c' } W.heap.size) X → Q .normal a X) :
    (Code.region 10 kmcOps true).wp Try.prog Q a0 W := by
  refine wp_region_st (by kernel_rfl) a0 W 14 (fun i => [68, 69, 70, 71, 72, 73, 74, 75, 76, 77, 78, 79, 80, 81].getD i 0) (kmcT N0 B p s bx wd x) 11 (KeB 3 W p) (fun a X => (a.tmps.size = a0.tmps.size ∧ a.defers = a0.defers ∧ ∀ t, (∀ j, j < 14 → [68, 69, 70, 71, 72, 73, 74, 75, 76, 77, 78, 79, 80, 81].getD j 0 ≠ t) → a.eval (.tmp t) = a0.eval (.tmp t)) ∧ (fun Z => ∃ g' c', To B Z { p with gl := g', cl := c' } { s with ls := s.ls ++ [(⟨wd ++ [(x : Int)], 0, 0, 0⟩ : Ln)] } ∧ Bx p.has W Z ∧ Gw p { p with gl := g', cl := c' } W.heap.size) X) kmc14 rfl rfl rfl (hall_of kmc_ok) (hal2_of kmc_ok) (KeB.start 3 W p) (by decide) (fun i hi => by rw [hs0]; exact (show ∀ i, i < 14 → [68, 69, 70, 71, 72, 73, 74, 75, 76, 77, 78, 79, 80, 81].getD i 0 < 113 by decide) i hi) (fun i o hi ho => hdS_of kmc_ok i o hi ho) ?_ ?_ (fun a X hR => fin a X hR.1 hR.2)
  · intro j o hj ho a X b hbw E haft KK hKK
    have hsz : a.tmps.size = 113 := E.sz.trans hs0
    have fY2 : a.eval (.tmp 2) = .pointer (some ⟨bx, 0, none⟩) := (E.ag 2 (by decide)).trans eY2
    have fY4 : a.eval (.tmp 4) = .string (sp wd) := (E.ag 4 (by decide)).trans eY4
    have fY8 : a.eval (.tmp 8) = .int .i64 (x : Int) := (E.ag 8 (by decide)).trans eY8
    have rd := E.rd
    have rB : X.cell? ⟨bx, 0, none⟩ = some (.pointer (some ⟨p.b, 0, none⟩)) := rd.1.oth nbx hbx
    have r4 : X.cell? ⟨p.b, 4, none⟩ = (toC p s)[4]? := rd.1.cell h (by decide) 4
    clear E fin
    rcases (by omega : j = 0 ∨ j = 1 ∨ j = 2 ∨ j = 3 ∨ j = 4 ∨ j = 5 ∨ j = 6 ∨ j = 7 ∨ j = 8 ∨ j = 9 ∨ j = 10 ∨ j = 11 ∨ j = 12 ∨ j = 13) with rfl | rfl | rfl | rfl | rfl | rfl | rfl | rfl | rfl | rfl | rfl | rfl | rfl | rfl
    · obtain rfl : kmc0 = o := Option.some.inj ho
      exact wp_valueZ (v := .pointer (some ⟨p.b, 0, none⟩)) (w' := X) (by simp [execOp, kmc0, fY2, ldTb rB]) (hKK _ _ rd rfl (fun _ _ _ h => h))
    · obtain rfl : kmc1 = o := Option.some.inj ho
      exact wp_valueZ (v := .pointer (some ⟨p.b, 0, none⟩)) (w' := X) (by simp [execOp, kmc1, fY2, ldTb rB]) (hKK _ _ rd rfl (fun _ _ _ h => h))
    · obtain rfl : kmc2 = o := Option.some.inj ho
      have d0 : a.eval (.tmp 69) = .pointer (some ⟨p.b, 0, none⟩) := haft ⟨1, .data⟩ (by simp [kmc2]) rfl
      exact wp_valueZ (v := .pointer (some ⟨p.b, 0, none⟩)) (w' := X) (by simp [execOp, kmc2, d0]) (hKK _ _ rd rfl (fun _ _ _ h => h))
    · obtain rfl : kmc3 = o := Option.some.inj ho
      have d0 : a.eval (.tmp 70) = .pointer (some ⟨p.b, 0, none⟩) := haft ⟨2, .data⟩ (by simp [kmc3]) rfl
      exact wp_valueZ (v := .pointer (some ⟨p.b, 4, none⟩)) (w' := X) (by simp [execOp, kmc3, d0, fldT4]) (hKK _ _ rd rfl (fun _ _ _ h => h))
    · obtain rfl : kmc4 = o := Option.some.inj ho
      have d0 : a.eval (.tmp 71) = .pointer (some ⟨p.b, 4, none⟩) := haft ⟨3, .data⟩ (by simp [kmc4]) rfl
      exact wp_valueZ (v := .slice (some ⟨p.gl, 0, none⟩) s.ls.length p.cl) (w' := X) (by simp [execOp, kmc4, d0, ldLns r4]) (hKK _ _ rd rfl (fun _ _ _ h => h))
    · obtain rfl : kmc5 = o := Option.some.inj ho
      exact wp_valueZ (v := .string (sp wd)) (w' := X) (by simp [execOp, kmc5, fY4]) (hKK _ _ rd rfl (fun _ _ _ h => h))
    · obtain rfl : kmc6 = o := Option.some.inj ho
      exact wp_valueZ (v := .int .i64 (x : Int)) (w' := X) (by simp [execOp, kmc6, fY8]) (hKK _ _ rd rfl (fun _ _ _ h => h))
    · obtain rfl : kmc7 = o := Option.some.inj ho
      have d0 : a.eval (.tmp 74) = .int .i64 (x : Int) := haft ⟨6, .data⟩ (by simp [kmc7]) rfl
      refine wp_enterZ (run_call1 rfl (enters_of Try.func57 (by kernel_rfl) rfl) d0) (symbol_any (x : Int) X (by omega) (by omega)) ?_
      rintro e X' ⟨rfl, hb⟩
      exact ⟨_, rfl, hKK _ _ (rd.below hb (fun i b e => (h.lt e).2)) rfl (fun j u _ ht => kmcT_below N0 B p s bx wd x hb ht)⟩
    · obtain rfl : kmc8 = o := Option.some.inj ho
      have d0 : a.eval (.tmp 73) = .string (sp wd) := haft ⟨5, .data⟩ (by simp [kmc8]) rfl
      have d1 : a.eval (.tmp 75) = .string (sp [(x : Int)]) := haft ⟨7, .data⟩ (by simp [kmc8]) rfl
      exact wp_valueZ (w' := X) (run_addSp rfl d0 d1 (by omega) (by simp)) (hKK _ _ rd rfl (fun _ _ _ h => h))
    · obtain rfl : kmc9 = o := Option.some.inj ho
      have d0 : a.eval (.tmp 76) = .string (sp (wd ++ [(x : Int)])) := haft ⟨8, .data⟩ (by simp [kmc9]) rfl
      exact wp_valueZ (v := .agg #[.string (sp (wd ++ [(x : Int)])), .int .i64 0, .int .i64 0, .int .i64 0]) (w' := X) (by simp [execOp, kmc9, d0, run_bldL]) (hKK _ _ rd rfl (fun _ _ _ h => h))
    · obtain rfl : kmc10 = o := Option.some.inj ho
      have d0 : a.eval (.tmp 77) = .agg #[.string (sp (wd ++ [(x : Int)])), .int .i64 0, .int .i64 0, .int .i64 0] := haft ⟨9, .data⟩ (by simp [kmc10]) rfl
      exact wp_valueZ (v := .slice (some ⟨X.heap.size, 0, none⟩) 1 1) (w' := X.alloc (.cells #[.string (sp (wd ++ [(x : Int)])), .int .i64 0, .int .i64 0, .int .i64 0] 54)) (by simp [execOp, kmc10, d0, run_litL]) (hKK _ _ (rd.below (ballo _ _) (fun i b e => (h.lt e).2)) ⟨_, rfl, by rw [hN0]; exact rd.1.bx.size, fun j u hj => by have := Bk.new X (lnE (⟨wd ++ [(x : Int)], 0, 0, 0⟩ : Ln)) 54; have := this.cell j; rw [hj] at this; exact this⟩ (fun j u _ ht => kmcT_below N0 B p s bx wd x (ballo _ _) ht))
    · obtain rfl : kmc11 = o := Option.some.inj ho
      have d0 : a.eval (.tmp 72) = .slice (some ⟨p.gl, 0, none⟩) s.ls.length p.cl := haft ⟨4, .data⟩ (by simp [kmc11]) rfl
      obtain ⟨N, d1, hN, hc⟩ := haft ⟨10, .data⟩ (by simp [kmc11]) rfl
      have hT := (rd.2 (hbw rfl)).to h
      obtain ⟨a', c', X', hr, h1, h2, h3⟩ := push_g eLn 56 hT.ls (x := (⟨wd ++ [(x : Int)], 0, 0, 0⟩ : Ln)) hc rfl (by omega) (by unfold maxLen; omega) (Nat.le_trans hB rd.1.bx.size)
      obtain ⟨g', c2, e2, -⟩ := h1.pos lnE_len ln0 (by simp)
      cases e2
      exact wp_valueZ (run_pushV rfl d0 d1 hr) (hKK _ _ ⟨rd.1.grown h2 (fun i b e => (h.lt e).2) h.dis, fun e => by cases e⟩ ⟨g', c', rfl, h1, (h3 g' rfl).imp id fun e => by rw [hN0]; exact Nat.le_trans rd.1.bx.size e⟩ (fun j u hj ht => kmcT_gr N0 B p s bx wd x (fun N j x hN hx => h2.cell hx (fun q => by have := h.lt (i := 3) (k := N) q.symm; omega)) hj ht))
    · obtain rfl : kmc12 = o := Option.some.inj ho
      have d0 : a.eval (.tmp 68) = .pointer (some ⟨p.b, 0, none⟩) := haft ⟨0, .data⟩ (by simp [kmc12]) rfl
      exact wp_valueZ (v := .pointer (some ⟨p.b, 0, none⟩)) (w' := X) (by simp [execOp, kmc12, d0]) (hKK _ _ rd rfl (fun _ _ _ h => h))
    · obtain rfl : kmc13 = o := Option.some.inj ho
      have d0 : a.eval (.tmp 80) = .pointer (some ⟨p.b, 0, none⟩) := haft ⟨12, .data⟩ (by simp [kmc13]) rfl
      exact wp_valueZ (v := .pointer (some ⟨p.b, 4, none⟩)) (w' := X) (by simp [execOp, kmc13, d0, fldT4]) (hKK _ _ rd rfl (fun _ _ _ h => h))
  · intro a X b E KK hKK
    have rd := E.rd
    have rB : X.cell? ⟨bx, 0, none⟩ = some (.pointer (some ⟨p.b, 0, none⟩)) := rd.1.oth nbx hbx
    have r4 : X.cell? ⟨p.b, 4, none⟩ = (toC p s)[4]? := rd.1.cell h (by decide) 4
    have hR0 : a.tmps.size = a0.tmps.size ∧ a.defers = a0.defers ∧ ∀ t, (∀ j, j < 14 → [68, 69, 70, 71, 72, 73, 74, 75, 76, 77, 78, 79, 80, 81].getD j 0 ≠ t) → a.eval (.tmp t) = a0.eval (.tmp t) := ⟨E.sz, E.df, E.ag⟩
    have e0 : a.eval (.tmp 81) = .pointer (some ⟨p.b, 4, none⟩) := E.vs 13 (by decide) trivial
    have e1 : (kmcT N0 B p s bx wd x) 11 (a.eval (.tmp 79)) X := E.vs 11 (by decide) trivial
    clear E fin
    obtain ⟨g', c', e1', g1, g2⟩ := e1
    have hf := rd.1.frz h (by decide) 4
    obtain ⟨q1, q2, q3⟩ := h.new3 (w1 := X) (by rw [e1'] at g1; exact g1) rd.1 (fun k hk => by cases hk; rw [hN0] at g2; exact g2)
    refine wp_skipZ (w' := X.setCell ⟨p.b, 4, none⟩ (.slice (some ⟨g', 0, none⟩) (s.ls ++ [(⟨wd ++ [(x : Int)], 0, 0, 0⟩ : Ln)]).length c')) (by simp [execOp, kmc14, e0, e1', stLns r4 hf]) ?_
    exact hKK _ _ ⟨hR0, g', c', q1, q2, q3⟩
set_option maxRecDepth 100000 in
set_option maxHeartbeats 8000000 in
theorem kmc_region {Q : Exit → Act → World → Prop} (W : World) (N0 B : Nat) (p : Tl) (s : Ts) (bx : Nat) (wd : List Int) (x : Nat) (ds : List Deferred) (t0 t1 t3 t5 t6 t7 t9 t10 t11 t12 t13 t14 t15 t16 t17 t18 t19 t20 t21 t22 t23 t24 t25 t26 t27 t28 t29 t30 t31 t32 t33 t34 t35 t36 t37 t38 t39 t40 t41 t42 t43 t44 t45 t46 t47 t48 t49 t50 t51 t52 t53 t54 t55 t56 t57 t58 t59 t60 t61 t62 t63 t64 t65 t66 t67 t68 t69 t70 t71 t72 t73 t74 t75 t76 t77 t78 t79 t80 t81 t82 t83 t84 t85 t86 t87 t88 t89 t90 t91 t92 t93 t94 t95 t96 t97 t98 t99 t100 t101 t102 t103 t104 t105 t106 t107 t108 t109 t110 t111 t112 : Value)
    (hN0 : N0 = W.heap.size) (h : To B W p s) (hbx : W.cell? ⟨bx, 0, none⟩ = some (.pointer (some ⟨p.b, 0, none⟩))) (nbx : ¬ p.has bx) (hR : s.ls.length ≤ 1000000) (hB : B ≤ W.heap.size) (hwd : wd.length ≤ 8000000) (hx : x < 256)
    (fin : ∀ X (u68 u69 u70 u71 u72 u73 u74 u75 u76 u77 u78 u79 u80 u81 : Value), (fun Z => ∃ g' c', To B Z { p with gl := g', cl := c' } { s with ls := s.ls ++ [(⟨wd ++ [(x : Int)], 0, 0, 0⟩ : Ln)] } ∧ Bx p.has W Z ∧ Gw p { p with gl := g', cl := c' } W.heap.size) X → Q .normal ⟨#[t0, t1, .pointer (some ⟨bx, 0, none⟩), t3, .string (sp wd), t5, t6, t7, .int .i64 (x : Int), t9, t10, t11, t12, t13, t14, t15, t16, t17, t18, t19, t20, t21, t22, t23, t24, t25, t26, t27, t28, t29, t30, t31, t32, t33, t34, t35, t36, t37, t38, t39, t40, t41, t42, t43, t44, t45, t46, t47, t48, t49, t50, t51, t52, t53, t54, t55, t56, t57, t58, t59, t60, t61, t62, t63, t64, t65, t66, t67, u68, u69, u70, u71, u72, u73, u74, u75, u76, u77, u78, u79, u80, u81, t82, t83, t84, t85, t86, t87, t88, t89, t90, t91, t92, t93, t94, t95, t96, t97, t98, t99, t100, t101, t102, t103, t104, t105, t106, t107, t108, t109, t110, t111, t112], ds⟩ X) :
    (Code.region 10 kmcOps true).wp Try.prog Q ⟨#[t0, t1, .pointer (some ⟨bx, 0, none⟩), t3, .string (sp wd), t5, t6, t7, .int .i64 (x : Int), t9, t10, t11, t12, t13, t14, t15, t16, t17, t18, t19, t20, t21, t22, t23, t24, t25, t26, t27, t28, t29, t30, t31, t32, t33, t34, t35, t36, t37, t38, t39, t40, t41, t42, t43, t44, t45, t46, t47, t48, t49, t50, t51, t52, t53, t54, t55, t56, t57, t58, t59, t60, t61, t62, t63, t64, t65, t66, t67, t68, t69, t70, t71, t72, t73, t74, t75, t76, t77, t78, t79, t80, t81, t82, t83, t84, t85, t86, t87, t88, t89, t90, t91, t92, t93, t94, t95, t96, t97, t98, t99, t100, t101, t102, t103, t104, t105, t106, t107, t108, t109, t110, t111, t112], ds⟩ W := by
  obtain ⟨a0, ha0⟩ : ∃ a0 : Act, a0 = ⟨#[t0, t1, .pointer (some ⟨bx, 0, none⟩), t3, .string (sp wd), t5, t6, t7, .int .i64 (x : Int), t9, t10, t11, t12, t13, t14, t15, t16, t17, t18, t19, t20, t21, t22, t23, t24, t25, t26, t27, t28, t29, t30, t31, t32, t33, t34, t35, t36, t37, t38, t39, t40, t41, t42, t43, t44, t45, t46, t47, t48, t49, t50, t51, t52, t53, t54, t55, t56, t57, t58, t59, t60, t61, t62, t63, t64, t65, t66, t67, t68, t69, t70, t71, t72, t73, t74, t75, t76, t77, t78, t79, t80, t81, t82, t83, t84, t85, t86, t87, t88, t89, t90, t91, t92, t93, t94, t95, t96, t97, t98, t99, t100, t101, t102, t103, t104, t105, t106, t107, t108, t109, t110, t111, t112], ds⟩ := ⟨_, rfl⟩
  have hs0 : a0.tmps.size = 113 := by rw [ha0]; rfl
  have hd0 : a0.defers = ds := by rw [ha0]
  have gY0 : a0.eval (.tmp 0) = t0 := by rw [ha0]; rfl
  have gY1 : a0.eval (.tmp 1) = t1 := by rw [ha0]; rfl
  have gY2 : a0.eval (.tmp 2) = .pointer (some ⟨bx, 0, none⟩) := by rw [ha0]; rfl
  have gY3 : a0.eval (.tmp 3) = t3 := by rw [ha0]; rfl
  have gY4 : a0.eval (.tmp 4) = .string (sp wd) := by rw [ha0]; rfl
  have gY5 : a0.eval (.tmp 5) = t5 := by rw [ha0]; rfl
  have gY6 : a0.eval (.tmp 6) = t6 := by rw [ha0]; rfl
  have gY7 : a0.eval (.tmp 7) = t7 := by rw [ha0]; rfl
  have gY8 : a0.eval (.tmp 8) = .int .i64 (x : Int) := by rw [ha0]; rfl
  have gY9 : a0.eval (.tmp 9) = t9 := by rw [ha0]; rfl
  have gY10 : a0.eval (.tmp 10) = t10 := by rw [ha0]; rfl
  have gY11 : a0.eval (.tmp 11) = t11 := by rw [ha0]; rfl
  have gY12 : a0.eval (.tmp 12) = t12 := by rw [ha0]; rfl
  have gY13 : a0.eval (.tmp 13) = t13 := by rw [ha0]; rfl
  have gY14 : a0.eval (.tmp 14) = t14 := by rw [ha0]; rfl
  have gY15 : a0.eval (.tmp 15) = t15 := by rw [ha0]; rfl
  have gY16 : a0.eval (.tmp 16) = t16 := by rw [ha0]; rfl
  have gY17 : a0.eval (.tmp 17) = t17 := by rw [ha0]; rfl
  have gY18 : a0.eval (.tmp 18) = t18 := by rw [ha0]; rfl
  have gY19 : a0.eval (.tmp 19) = t19 := by rw [ha0]; rfl
  have gY20 : a0.eval (.tmp 20) = t20 := by rw [ha0]; rfl
  have gY21 : a0.eval (.tmp 21) = t21 := by rw [ha0]; rfl
  have gY22 : a0.eval (.tmp 22) = t22 := by rw [ha0]; rfl
  have gY23 : a0.eval (.tmp 23) = t23 := by rw [ha0]; rfl
  have gY24 : a0.eval (.tmp 24) = t24 := by rw [ha0]; rfl
  have gY25 : a0.eval (.tmp 25) = t25 := by rw [ha0]; rfl
  have gY26 : a0.eval (.tmp 26) = t26 := by rw [ha0]; rfl
  have gY27 : a0.eval (.tmp 27) = t27 := by rw [ha0]; rfl
  have gY28 : a0.eval (.tmp 28) = t28 := by rw [ha0]; rfl
  have gY29 : a0.eval (.tmp 29) = t29 := by rw [ha0]; rfl
  have gY30 : a0.eval (.tmp 30) = t30 := by rw [ha0]; rfl
  have gY31 : a0.eval (.tmp 31) = t31 := by rw [ha0]; rfl
  have gY32 : a0.eval (.tmp 32) = t32 := by rw [ha0]; rfl
  have gY33 : a0.eval (.tmp 33) = t33 := by rw [ha0]; rfl
  have gY34 : a0.eval (.tmp 34) = t34 := by rw [ha0]; rfl
  have gY35 : a0.eval (.tmp 35) = t35 := by rw [ha0]; rfl
  have gY36 : a0.eval (.tmp 36) = t36 := by rw [ha0]; rfl
  have gY37 : a0.eval (.tmp 37) = t37 := by rw [ha0]; rfl
  have gY38 : a0.eval (.tmp 38) = t38 := by rw [ha0]; rfl
  have gY39 : a0.eval (.tmp 39) = t39 := by rw [ha0]; rfl
  have gY40 : a0.eval (.tmp 40) = t40 := by rw [ha0]; rfl
  have gY41 : a0.eval (.tmp 41) = t41 := by rw [ha0]; rfl
  have gY42 : a0.eval (.tmp 42) = t42 := by rw [ha0]; rfl
  have gY43 : a0.eval (.tmp 43) = t43 := by rw [ha0]; rfl
  have gY44 : a0.eval (.tmp 44) = t44 := by rw [ha0]; rfl
  have gY45 : a0.eval (.tmp 45) = t45 := by rw [ha0]; rfl
  have gY46 : a0.eval (.tmp 46) = t46 := by rw [ha0]; rfl
  have gY47 : a0.eval (.tmp 47) = t47 := by rw [ha0]; rfl
  have gY48 : a0.eval (.tmp 48) = t48 := by rw [ha0]; rfl
  have gY49 : a0.eval (.tmp 49) = t49 := by rw [ha0]; rfl
  have gY50 : a0.eval (.tmp 50) = t50 := by rw [ha0]; rfl
  have gY51 : a0.eval (.tmp 51) = t51 := by rw [ha0]; rfl
  have gY52 : a0.eval (.tmp 52) = t52 := by rw [ha0]; rfl
  have gY53 : a0.eval (.tmp 53) = t53 := by rw [ha0]; rfl
  have gY54 : a0.eval (.tmp 54) = t54 := by rw [ha0]; rfl
  have gY55 : a0.eval (.tmp 55) = t55 := by rw [ha0]; rfl
  have gY56 : a0.eval (.tmp 56) = t56 := by rw [ha0]; rfl
  have gY57 : a0.eval (.tmp 57) = t57 := by rw [ha0]; rfl
  have gY58 : a0.eval (.tmp 58) = t58 := by rw [ha0]; rfl
  have gY59 : a0.eval (.tmp 59) = t59 := by rw [ha0]; rfl
  have gY60 : a0.eval (.tmp 60) = t60 := by rw [ha0]; rfl
  have gY61 : a0.eval (.tmp 61) = t61 := by rw [ha0]; rfl
  have gY62 : a0.eval (.tmp 62) = t62 := by rw [ha0]; rfl
  have gY63 : a0.eval (.tmp 63) = t63 := by rw [ha0]; rfl
  have gY64 : a0.eval (.tmp 64) = t64 := by rw [ha0]; rfl
  have gY65 : a0.eval (.tmp 65) = t65 := by rw [ha0]; rfl
  have gY66 : a0.eval (.tmp 66) = t66 := by rw [ha0]; rfl
  have gY67 : a0.eval (.tmp 67) = t67 := by rw [ha0]; rfl
  have gY82 : a0.eval (.tmp 82) = t82 := by rw [ha0]; rfl
  have gY83 : a0.eval (.tmp 83) = t83 := by rw [ha0]; rfl
  have gY84 : a0.eval (.tmp 84) = t84 := by rw [ha0]; rfl
  have gY85 : a0.eval (.tmp 85) = t85 := by rw [ha0]; rfl
  have gY86 : a0.eval (.tmp 86) = t86 := by rw [ha0]; rfl
  have gY87 : a0.eval (.tmp 87) = t87 := by rw [ha0]; rfl
  have gY88 : a0.eval (.tmp 88) = t88 := by rw [ha0]; rfl
  have gY89 : a0.eval (.tmp 89) = t89 := by rw [ha0]; rfl
  have gY90 : a0.eval (.tmp 90) = t90 := by rw [ha0]; rfl
  have gY91 : a0.eval (.tmp 91) = t91 := by rw [ha0]; rfl
  have gY92 : a0.eval (.tmp 92) = t92 := by rw [ha0]; rfl
  have gY93 : a0.eval (.tmp 93) = t93 := by rw [ha0]; rfl
  have gY94 : a0.eval (.tmp 94) = t94 := by rw [ha0]; rfl
  have gY95 : a0.eval (.tmp 95) = t95 := by rw [ha0]; rfl
  have gY96 : a0.eval (.tmp 96) = t96 := by rw [ha0]; rfl
  have gY97 : a0.eval (.tmp 97) = t97 := by rw [ha0]; rfl
  have gY98 : a0.eval (.tmp 98) = t98 := by rw [ha0]; rfl
  have gY99 : a0.eval (.tmp 99) = t99 := by rw [ha0]; rfl
  have gY100 : a0.eval (.tmp 100) = t100 := by rw [ha0]; rfl
  have gY101 : a0.eval (.tmp 101) = t101 := by rw [ha0]; rfl
  have gY102 : a0.eval (.tmp 102) = t102 := by rw [ha0]; rfl
  have gY103 : a0.eval (.tmp 103) = t103 := by rw [ha0]; rfl
  have gY104 : a0.eval (.tmp 104) = t104 := by rw [ha0]; rfl
  have gY105 : a0.eval (.tmp 105) = t105 := by rw [ha0]; rfl
  have gY106 : a0.eval (.tmp 106) = t106 := by rw [ha0]; rfl
  have gY107 : a0.eval (.tmp 107) = t107 := by rw [ha0]; rfl
  have gY108 : a0.eval (.tmp 108) = t108 := by rw [ha0]; rfl
  have gY109 : a0.eval (.tmp 109) = t109 := by rw [ha0]; rfl
  have gY110 : a0.eval (.tmp 110) = t110 := by rw [ha0]; rfl
  have gY111 : a0.eval (.tmp 111) = t111 := by rw [ha0]; rfl
  have gY112 : a0.eval (.tmp 112) = t112 := by rw [ha0]; rfl
  rw [← ha0]
  refine kmc_core W N0 B p s bx wd x a0 hs0 gY2 gY4 gY8 hN0 h hbx nbx hR hB hwd hx ?_
  clear ha0
  rintro a X ⟨es, ed, ag⟩ hF
  have hq := fin X (a.eval (.tmp 68)) (a.eval (.tmp 69)) (a.eval (.tmp 70)) (a.eval (.tmp 71)) (a.eval (.tmp 72)) (a.eval (.tmp 73)) (a.eval (.tmp 74)) (a.eval (.tmp 75)) (a.eval (.tmp 76)) (a.eval (.tmp 77)) (a.eval (.tmp 78)) (a.eval (.tmp 79)) (a.eval (.tmp 80)) (a.eval (.tmp 81)) hF
  have ea : a = ⟨#[a.eval (.tmp 0), a.eval (.tmp 1), a.eval (.tmp 2), a.eval (.tmp 3), a.eval (.tmp 4), a.eval (.tmp 5), a.eval (.tmp 6), a.eval (.tmp 7), a.eval (.tmp 8), a.eval (.tmp 9), a.eval (.tmp 10), a.eval (.tmp 11), a.eval (.tmp 12), a.eval (.tmp 13), a.eval (.tmp 14), a.eval (.tmp 15), a.eval (.tmp 16), a.eval (.tmp 17), a.eval (.tmp 18), a.eval (.tmp 19), a.eval (.tmp 20), a.eval (.tmp 21), a.eval (.tmp 22), a.eval (.tmp 23), a.eval (.tmp 24), a.eval (.tmp 25), a.eval (.tmp 26), a.eval (.tmp 27), a.eval (.tmp 28), a.eval (.tmp 29), a.eval (.tmp 30), a.eval (.tmp 31), a.eval (.tmp 32), a.eval (.tmp 33), a.eval (.tmp 34), a.eval (.tmp 35), a.eval (.tmp 36), a.eval (.tmp 37), a.eval (.tmp 38), a.eval (.tmp 39), a.eval (.tmp 40), a.eval (.tmp 41), a.eval (.tmp 42), a.eval (.tmp 43), a.eval (.tmp 44), a.eval (.tmp 45), a.eval (.tmp 46), a.eval (.tmp 47), a.eval (.tmp 48), a.eval (.tmp 49), a.eval (.tmp 50), a.eval (.tmp 51), a.eval (.tmp 52), a.eval (.tmp 53), a.eval (.tmp 54), a.eval (.tmp 55), a.eval (.tmp 56), a.eval (.tmp 57), a.eval (.tmp 58), a.eval (.tmp 59), a.eval (.tmp 60), a.eval (.tmp 61), a.eval (.tmp 62), a.eval (.tmp 63), a.eval (.tmp 64), a.eval (.tmp 65), a.eval (.tmp 66), a.eval (.tmp 67), a.eval (.tmp 68), a.eval (.tmp 69), a.eval (.tmp 70), a.eval (.tmp 71), a.eval (.tmp 72), a.eval (.tmp 73), a.eval (.tmp 74), a.eval (.tmp 75), a.eval (.tmp 76), a.eval (.tmp 77), a.eval (.tmp 78), a.eval (.tmp 79), a.eval (.tmp 80), a.eval (.tmp 81), a.eval (.tmp 82), a.eval (.tmp 83), a.eval (.tmp 84), a.eval (.tmp 85), a.eval (.tmp 86), a.eval (.tmp 87), a.eval (.tmp 88), a.eval (.tmp 89), a.eval (.tmp 90), a.eval (.tmp 91), a.eval (.tmp 92), a.eval (.tmp 93), a.eval (.tmp 94), a.eval (.tmp 95), a.eval (.tmp 96), a.eval (.tmp 97), a.eval (.tmp 98), a.eval (.tmp 99), a.eval (.tmp 100), a.eval (.tmp 101), a.eval (.tmp 102), a.eval (.tmp 103), a.eval (.tmp 104), a.eval (.tmp 105), a.eval (.tmp 106), a.eval (.tmp 107), a.eval (.tmp 108), a.eval (.tmp 109), a.eval (.tmp 110), a.eval (.tmp 111), a.eval (.tmp 112)], a.defers⟩ := act_eta a 113 (es.trans hs0)
  rw [ea, ed, hd0]
  have kY0 : a.eval (.tmp 0) = t0 := (ag 0 (by decide)).trans gY0
  have kY1 : a.eval (.tmp 1) = t1 := (ag 1 (by decide)).trans gY1
  have kY2 : a.eval (.tmp 2) = .pointer (some ⟨bx, 0, none⟩) := (ag 2 (by decide)).trans gY2
  have kY3 : a.eval (.tmp 3) = t3 := (ag 3 (by decide)).trans gY3
  have kY4 : a.eval (.tmp 4) = .string (sp wd) := (ag 4 (by decide)).trans gY4
  have kY5 : a.eval (.tmp 5) = t5 := (ag 5 (by decide)).trans gY5
  have kY6 : a.eval (.tmp 6) = t6 := (ag 6 (by decide)).trans gY6
  have kY7 : a.eval (.tmp 7) = t7 := (ag 7 (by decide)).trans gY7
  have kY8 : a.eval (.tmp 8) = .int .i64 (x : Int) := (ag 8 (by decide)).trans gY8
  have kY9 : a.eval (.tmp 9) = t9 := (ag 9 (by decide)).trans gY9
  have kY10 : a.eval (.tmp 10) = t10 := (ag 10 (by decide)).trans gY10
  have kY11 : a.eval (.tmp 11) = t11 := (ag 11 (by decide)).trans gY11
  have kY12 : a.eval (.tmp 12) = t12 := (ag 12 (by decide)).trans gY12
  have kY13 : a.eval (.tmp 13) = t13 := (ag 13 (by decide)).trans gY13
  have kY14 : a.eval (.tmp 14) = t14 := (ag 14 (by decide)).trans gY14
  have kY15 : a.eval (.tmp 15) = t15 := (ag 15 (by decide)).trans gY15
  have kY16 : a.eval (.tmp 16) = t16 := (ag 16 (by decide)).trans gY16
  have kY17 : a.eval (.tmp 17) = t17 := (ag 17 (by decide)).trans gY17
  have kY18 : a.eval (.tmp 18) = t18 := (ag 18 (by decide)).trans gY18
  have kY19 : a.eval (.tmp 19) = t19 := (ag 19 (by decide)).trans gY19
  have kY20 : a.eval (.tmp 20) = t20 := (ag 20 (by decide)).trans gY20
  have kY21 : a.eval (.tmp 21) = t21 := (ag 21 (by decide)).trans gY21
  have kY22 : a.eval (.tmp 22) = t22 := (ag 22 (by decide)).trans gY22
  have kY23 : a.eval (.tmp 23) = t23 := (ag 23 (by decide)).trans gY23
  have kY24 : a.eval (.tmp 24) = t24 := (ag 24 (by decide)).trans gY24
  have kY25 : a.eval (.tmp 25) = t25 := (ag 25 (by decide)).trans gY25
  have kY26 : a.eval (.tmp 26) = t26 := (ag 26 (by decide)).trans gY26
  have kY27 : a.eval (.tmp 27) = t27 := (ag 27 (by decide)).trans gY27
  have kY28 : a.eval (.tmp 28) = t28 := (ag 28 (by decide)).trans gY28
  have kY29 : a.eval (.tmp 29) = t29 := (ag 29 (by decide)).trans gY29
  have kY30 : a.eval (.tmp 30) = t30 := (ag 30 (by decide)).trans gY30
  have kY31 : a.eval (.tmp 31) = t31 := (ag 31 (by decide)).trans gY31
  have kY32 : a.eval (.tmp 32) = t32 := (ag 32 (by decide)).trans gY32
  have kY33 : a.eval (.tmp 33) = t33 := (ag 33 (by decide)).trans gY33
  have kY34 : a.eval (.tmp 34) = t34 := (ag 34 (by decide)).trans gY34
  have kY35 : a.eval (.tmp 35) = t35 := (ag 35 (by decide)).trans gY35
  have kY36 : a.eval (.tmp 36) = t36 := (ag 36 (by decide)).trans gY36
  have kY37 : a.eval (.tmp 37) = t37 := (ag 37 (by decide)).trans gY37
  have kY38 : a.eval (.tmp 38) = t38 := (ag 38 (by decide)).trans gY38
  have kY39 : a.eval (.tmp 39) = t39 := (ag 39 (by decide)).trans gY39
  have kY40 : a.eval (.tmp 40) = t40 := (ag 40 (by decide)).trans gY40
  have kY41 : a.eval (.tmp 41) = t41 := (ag 41 (by decide)).trans gY41
  have kY42 : a.eval (.tmp 42) = t42 := (ag 42 (by decide)).trans gY42
  have kY43 : a.eval (.tmp 43) = t43 := (ag 43 (by decide)).trans gY43
  have kY44 : a.eval (.tmp 44) = t44 := (ag 44 (by decide)).trans gY44
  have kY45 : a.eval (.tmp 45) = t45 := (ag 45 (by decide)).trans gY45
  have kY46 : a.eval (.tmp 46) = t46 := (ag 46 (by decide)).trans gY46
  have kY47 : a.eval (.tmp 47) = t47 := (ag 47 (by decide)).trans gY47
  have kY48 : a.eval (.tmp 48) = t48 := (ag 48 (by decide)).trans gY48
  have kY49 : a.eval (.tmp 49) = t49 := (ag 49 (by decide)).trans gY49
  have kY50 : a.eval (.tmp 50) = t50 := (ag 50 (by decide)).trans gY50
  have kY51 : a.eval (.tmp 51) = t51 := (ag 51 (by decide)).trans gY51
  have kY52 : a.eval (.tmp 52) = t52 := (ag 52 (by decide)).trans gY52
  have kY53 : a.eval (.tmp 53) = t53 := (ag 53 (by decide)).trans gY53
  have kY54 : a.eval (.tmp 54) = t54 := (ag 54 (by decide)).trans gY54
  have kY55 : a.eval (.tmp 55) = t55 := (ag 55 (by decide)).trans gY55
  have kY56 : a.eval (.tmp 56) = t56 := (ag 56 (by decide)).trans gY56
  have kY57 : a.eval (.tmp 57) = t57 := (ag 57 (by decide)).trans gY57
  have kY58 : a.eval (.tmp 58) = t58 := (ag 58 (by decide)).trans gY58
  have kY59 : a.eval (.tmp 59) = t59 := (ag 59 (by decide)).trans gY59
  have kY60 : a.eval (.tmp 60) = t60 := (ag 60 (by decide)).trans gY60
  have kY61 : a.eval (.tmp 61) = t61 := (ag 61 (by decide)).trans gY61
  have kY62 : a.eval (.tmp 62) = t62 := (ag 62 (by decide)).trans gY62
  have kY63 : a.eval (.tmp 63) = t63 := (ag 63 (by decide)).trans gY63
  have kY64 : a.eval (.tmp 64) = t64 := (ag 64 (by decide)).trans gY64
  have kY65 : a.eval (.tmp 65) = t65 := (ag 65 (by decide)).trans gY65
  have kY66 : a.eval (.tmp 66) = t66 := (ag 66 (by decide)).trans gY66
  have kY67 : a.eval (.tmp 67) = t67 := (ag 67 (by decide)).trans gY67
  have kY82 : a.eval (.tmp 82) = t82 := (ag 82 (by decide)).trans gY82
  have kY83 : a.eval (.tmp 83) = t83 := (ag 83 (by decide)).trans gY83
  have kY84 : a.eval (.tmp 84) = t84 := (ag 84 (by decide)).trans gY84
  have kY85 : a.eval (.tmp 85) = t85 := (ag 85 (by decide)).trans gY85
  have kY86 : a.eval (.tmp 86) = t86 := (ag 86 (by decide)).trans gY86
  have kY87 : a.eval (.tmp 87) = t87 := (ag 87 (by decide)).trans gY87
  have kY88 : a.eval (.tmp 88) = t88 := (ag 88 (by decide)).trans gY88
  have kY89 : a.eval (.tmp 89) = t89 := (ag 89 (by decide)).trans gY89
  have kY90 : a.eval (.tmp 90) = t90 := (ag 90 (by decide)).trans gY90
  have kY91 : a.eval (.tmp 91) = t91 := (ag 91 (by decide)).trans gY91
  have kY92 : a.eval (.tmp 92) = t92 := (ag 92 (by decide)).trans gY92
  have kY93 : a.eval (.tmp 93) = t93 := (ag 93 (by decide)).trans gY93
  have kY94 : a.eval (.tmp 94) = t94 := (ag 94 (by decide)).trans gY94
  have kY95 : a.eval (.tmp 95) = t95 := (ag 95 (by decide)).trans gY95
  have kY96 : a.eval (.tmp 96) = t96 := (ag 96 (by decide)).trans gY96
  have kY97 : a.eval (.tmp 97) = t97 := (ag 97 (by decide)).trans gY97
  have kY98 : a.eval (.tmp 98) = t98 := (ag 98 (by decide)).trans gY98
  have kY99 : a.eval (.tmp 99) = t99 := (ag 99 (by decide)).trans gY99
  have kY100 : a.eval (.tmp 100) = t100 := (ag 100 (by decide)).trans gY100
  have kY101 : a.eval (.tmp 101) = t101 := (ag 101 (by decide)).trans gY101
  have kY102 : a.eval (.tmp 102) = t102 := (ag 102 (by decide)).trans gY102
  have kY103 : a.eval (.tmp 103) = t103 := (ag 103 (by decide)).trans gY103
  have kY104 : a.eval (.tmp 104) = t104 := (ag 104 (by decide)).trans gY104
  have kY105 : a.eval (.tmp 105) = t105 := (ag 105 (by decide)).trans gY105
  have kY106 : a.eval (.tmp 106) = t106 := (ag 106 (by decide)).trans gY106
  have kY107 : a.eval (.tmp 107) = t107 := (ag 107 (by decide)).trans gY107
  have kY108 : a.eval (.tmp 108) = t108 := (ag 108 (by decide)).trans gY108
  have kY109 : a.eval (.tmp 109) = t109 := (ag 109 (by decide)).trans gY109
  have kY110 : a.eval (.tmp 110) = t110 := (ag 110 (by decide)).trans gY110
  have kY111 : a.eval (.tmp 111) = t111 := (ag 111 (by decide)).trans gY111
  have kY112 : a.eval (.tmp 112) = t112 := (ag 112 (by decide)).trans gY112
  rw [kY0, kY1, kY2, kY3, kY4, kY5, kY6, kY7, kY8, kY9, kY10, kY11, kY12, kY13, kY14, kY15, kY16, kY17, kY18, kY19, kY20, kY21, kY22, kY23, kY24, kY25, kY26, kY27, kY28, kY29, kY30, kY31, kY32, kY33, kY34, kY35, kY36, kY37, kY38, kY39, kY40, kY41, kY42, kY43, kY44, kY45, kY46, kY47, kY48, kY49, kY50, kY51, kY52, kY53, kY54, kY55, kY56, kY57, kY58, kY59, kY60, kY61, kY62, kY63, kY64, kY65, kY66, kY67, kY82, kY83, kY84, kY85, kY86, kY87, kY88, kY89, kY90, kY91, kY92, kY93, kY94, kY95, kY96, kY97, kY98, kY99, kY100, kY101, kY102, kY103, kY104, kY105, kY106, kY107, kY108, kY109, kY110, kY111, kY112]
  exact hq
def kme0 : Oper := { dst := some 83, op := Op.load 23 (Operand.tmp 2), type := 23, pos := "line.go:59", after := #[], guard := none }
def kme1 : Oper := { dst := some 84, op := Op.load 23 (Operand.tmp 2), type := 23, pos := "line.go:59", after := #[], guard := none }
def kme2 : Oper := { dst := some 85, op := Op.nilCheck (Operand.tmp 84), type := 0, pos := "line.go:59", after := #[{ on := 1, ground := Ground.data }], guard := none }
def kme3 : Oper := { dst := some 86, op := Op.fieldAddr 62 (Operand.tmp 85) 6, type := 0, pos := "line.go:59", after := #[{ on := 2, ground := Ground.data }], guard := none }
def kme4 : Oper := { dst := some 87, op := Op.load 57 (Operand.tmp 86), type := 57, pos := "line.go:59", after := #[{ on := 3, ground := Ground.data }], guard := none }
def kme5 : Oper := { dst := some 88, op := Op.move (Operand.tmp 5), type := 3, pos := "line.go:59", after := #[], guard := none }
def kme6 : Oper := { dst := some 89, op := Op.move (Operand.tmp 7), type := 57, pos := "line.go:59", after := #[], guard := none }
def kme7 : Oper := { dst := some 90, op := Op.call { callee := Callee.value (Operand.func 59), args := #[Operand.tmp 87, Operand.tmp 88, Operand.tmp 89], argTypes := #[57, 3, 22] }, type := 57, pos := "line.go:59", after := #[{ on := 4, ground := Ground.data }, { on := 5, ground := Ground.data }, { on := 6, ground := Ground.data }], guard := none }
def kme8 : Oper := { dst := some 91, op := Op.nilCheck (Operand.tmp 83), type := 0, pos := "line.go:59", after := #[{ on := 0, ground := Ground.data }, { on := 0, ground := Ground.phase }, { on := 1, ground := Ground.phase }, { on := 2, ground := Ground.phase }, { on := 3, ground := Ground.phase }, { on := 4, ground := Ground.phase }, { on := 5, ground := Ground.phase }, { on := 6, ground := Ground.phase }, { on := 7, ground := Ground.phase }], guard := none }
def kme9 : Oper := { dst := some 92, op := Op.fieldAddr 62 (Operand.tmp 91) 6, type := 0, pos := "line.go:59", after := #[{ on := 8, ground := Ground.data }, { on := 0, ground := Ground.phase }, { on := 1, ground := Ground.phase }, { on := 2, ground := Ground.phase }, { on := 3, ground := Ground.phase }, { on := 4, ground := Ground.phase }, { on := 5, ground := Ground.phase }, { on := 6, ground := Ground.phase }, { on := 7, ground := Ground.phase }], guard := none }
def kme10 : Oper := { dst := none, op := Op.store 57 (Operand.tmp 92) (Operand.tmp 90), type := 0, pos := "line.go:59", after := #[{ on := 9, ground := Ground.data }, { on := 7, ground := Ground.data }, { on := 7, ground := Ground.chain }, { on := 0, ground := Ground.phase }, { on := 1, ground := Ground.phase }, { on := 2, ground := Ground.phase }, { on := 3, ground := Ground.phase }, { on := 4, ground := Ground.phase }, { on := 5, ground := Ground.phase }, { on := 6, ground := Ground.phase }, { on := 7, ground := Ground.phase }], guard := none }
def kmeOps : Array Oper := #[kme0, kme1, kme2, kme3, kme4, kme5, kme6, kme7, kme8, kme9, kme10]

def kmeT (N0 B : Nat) (p : Tl) (s : Ts) (bx at' : Nat) (ED : List Nat) (ge ne ce : Nat) : Nat → Value → World → Prop
  | 0, v, _ => v = .pointer (some ⟨p.b, 0, none⟩)
  | 1, v, _ => v = .pointer (some ⟨p.b, 0, none⟩)
  | 2, v, _ => v = .pointer (some ⟨p.b, 0, none⟩)
  | 3, v, _ => v = .pointer (some ⟨p.b, 6, none⟩)
  | 4, v, _ => v = .slice (some ⟨p.go, 0, none⟩) s.ord.length p.co
  | 5, v, _ => v = .int .i64 (at' : Int)
  | 6, v, _ => v = .slice (some ⟨ge, 0, none⟩) ne ce
  | 7, v, W => ∃ g' c', v = .slice (some ⟨g', 0, none⟩) (s.ord.take at' ++ ED ++ s.ord.drop at').length c' ∧ OwnL .i64 3 W B v (ni (s.ord.take at' ++ ED ++ s.ord.drop at')) ∧ (p.bk 4 = some g' ∨ N0 ≤ g')
  | 8, v, _ => v = .pointer (some ⟨p.b, 0, none⟩)
  | 9, v, _ => v = .pointer (some ⟨p.b, 6, none⟩)
  | _, _, _ => True
set_option maxRecDepth 100000 in
set_option maxHeartbeats 1000000 in
theorem kme_ok : okS2 kmeOps [83, 84, 85, 86, 87, 88, 89, 90, 91, 92] = true := by kernel_rfl
theorem kmeT_below (N0 B : Nat) (p : Tl) (s : Ts) (bx at' : Nat) (ED : List Nat) (ge ne ce : Nat) {v : Value} {W W' : World} (hb : Below W.heap.size W W') : ∀ {i : Nat}, kmeT N0 B p s bx at' ED ge ne ce i v W → kmeT N0 B p s bx at' ED ge ne ce i v W'
  | 0, h => h
  | 1, h => h
  | 2, h => h
  | 3, h => h
  | 4, h => h
  | 5, h => h
  | 6, h => h
  | 7, ⟨a', c', e, h1, h2⟩ => ⟨a', c', e, OwnL.grown h1 hb, h2⟩
  | 8, h => h
  | 9, h => h
  | _ + 10, h => h
theorem kmeT_gr (N0 B : Nat) (p : Tl) (s : Ts) (bx at' : Nat) (ED : List Nat) (ge ne ce : Nat) {W W' : World} {v : Value} : ∀ {i : Nat}, i ≠ 7 → kmeT N0 B p s bx at' ED ge ne ce i v W → kmeT N0 B p s bx at' ED ge ne ce i v W'
  | 0, _, h => h
  | 1, _, h => h
  | 2, _, h => h
  | 3, _, h => h
  | 4, _, h => h
  | 5, _, h => h
  | 6, _, h => h
  | 7, n, _ => absurd rfl n
  | 8, _, h => h
  | 9, _, h => h
  | _ + 10, _, h => h
set_option maxRecDepth 100000 in
set_option maxHeartbeats 8000000 in
theorem kme_core {Q : Exit → Act → World → Prop} (W : World) (N0 B : Nat) (p : Tl) (s : Ts) (bx at' : Nat) (ED : List Nat) (ge ne ce : Nat) (a0 : Act) (hs0 : a0.tmps.size = 113) (eY2 : a0.eval (.tmp 2) = .pointer (some ⟨bx, 0, none⟩)) (eY5 : a0.eval (.tmp 5) = .int .i64 (at' : Int)) (eY7 : a0.eval (.tmp 7) = .slice (some ⟨ge, 0, none⟩) ne ce)
    (hN0 : N0 = W.heap.size) (hne : ne = ED.length) (h : To B W p s) (hbx : W.cell? ⟨bx, 0, none⟩ = some (.pointer (some ⟨p.b, 0, none⟩))) (nbx : ¬ p.has bx) (hB : B ≤ W.heap.size) (Be : Nat) (hE : OwnL .i64 3 W Be (.slice (some ⟨ge, 0, none⟩) ED.length ce) (ni ED)) (nge : ¬ p.has ge) (hat : at' ≤ s.ord.length) (hE0 : 0 < ED.length) (hz : s.ord.length + ED.length ≤ 1000000)
    (fin : ∀ a X, (a.tmps.size = a0.tmps.size ∧ a.defers = a0.defers ∧ ∀ t, (∀ j, j < 10 → [83, 84, 85, 86, 87, 88, 89, 90, 91, 92].getD j 0 ≠ t) → a.eval (.tmp t) = a0.eval (.tmp t)) → (fun Z => ∃ g' c', To B Z { p with go := g', co := c' } { s with ord := (s.ord.take at' ++ ED ++ s.ord.drop at') } ∧ Bx p.has W Z ∧ Gw p { p with go := g', co := c' } W.heap.size) X → Q .normal a X) :
    (Code.region 12 kmeOps true).wp Try.prog Q a0 W := by
  refine wp_region_st (by kernel_rfl) a0 W 10 (fun i => [83, 84, 85, 86, 87, 88, 89, 90, 91, 92].getD i 0) (kmeT N0 B p s bx at' ED ge ne ce) 7 (KeB 4 W p) (fun a X => (a.tmps.size = a0.tmps.size ∧ a.defers = a0.defers ∧ ∀ t, (∀ j, j < 10 → [83, 84, 85, 86, 87, 88, 89, 90, 91, 92].getD j 0 ≠ t) → a.eval (.tmp t) = a0.eval (.tmp t)) ∧ (fun Z => ∃ g' c', To B Z { p with go := g', co := c' } { s with ord := (s.ord.take at' ++ ED ++ s.ord.drop at') } ∧ Bx p.has W Z ∧ Gw p { p with go := g', co := c' } W.heap.size) X) kme10 rfl rfl rfl (hall_of kme_ok) (hal2_of kme_ok) (KeB.start 4 W p) (by decide) (fun i hi => by rw [hs0]; exact (show ∀ i, i < 10 → [83, 84, 85, 86, 87, 88, 89, 90, 91, 92].getD i 0 < 113 by decide) i hi) (fun i o hi ho => hdS_of kme_ok i o hi ho) ?_ ?_ (fun a X hR => fin a X hR.1 hR.2)
  · intro j o hj ho a X b hbw E haft KK hKK
    have hsz : a.tmps.size = 113 := E.sz.trans hs0
    have fY2 : a.eval (.tmp 2) = .pointer (some ⟨bx, 0, none⟩) := (E.ag 2 (by decide)).trans eY2
    have fY5 : a.eval (.tmp 5) = .int .i64 (at' : Int) := (E.ag 5 (by decide)).trans eY5
    have fY7 : a.eval (.tmp 7) = .slice (some ⟨ge, 0, none⟩) ne ce := (E.ag 7 (by decide)).trans eY7
    have rd := E.rd
    have rB : X.cell? ⟨bx, 0, none⟩ = some (.pointer (some ⟨p.b, 0, none⟩)) := rd.1.oth nbx hbx
    have r6 : X.cell? ⟨p.b, 6, none⟩ = (toC p s)[6]? := rd.1.cell h (by decide) 6
    clear E fin
    rcases (by omega : j = 0 ∨ j = 1 ∨ j = 2 ∨ j = 3 ∨ j = 4 ∨ j = 5 ∨ j = 6 ∨ j = 7 ∨ j = 8 ∨ j = 9) with rfl | rfl | rfl | rfl | rfl | rfl | rfl | rfl | rfl | rfl
    · obtain rfl : kme0 = o := Option.some.inj ho
      exact wp_valueZ (v := .pointer (some ⟨p.b, 0, none⟩)) (w' := X) (by simp [execOp, kme0, fY2, ldTb rB]) (hKK _ _ rd rfl (fun _ _ _ h => h))
    · obtain rfl : kme1 = o := Option.some.inj ho
      exact wp_valueZ (v := .pointer (some ⟨p.b, 0, none⟩)) (w' := X) (by simp [execOp, kme1, fY2, ldTb rB]) (hKK _ _ rd rfl (fun _ _ _ h => h))
    · obtain rfl : kme2 = o := Option.some.inj ho
      have d0 : a.eval (.tmp 84) = .pointer (some ⟨p.b, 0, none⟩) := haft ⟨1, .data⟩ (by simp [kme2]) rfl
      exact wp_valueZ (v := .pointer (some ⟨p.b, 0, none⟩)) (w' := X) (by simp [execOp, kme2, d0]) (hKK _ _ rd rfl (fun _ _ _ h => h))
    · obtain rfl : kme3 = o := Option.some.inj ho
      have d0 : a.eval (.tmp 85) = .pointer (some ⟨p.b, 0, none⟩) := haft ⟨2, .data⟩ (by simp [kme3]) rfl
      exact wp_valueZ (v := .pointer (some ⟨p.b, 6, none⟩)) (w' := X) (by simp [execOp, kme3, d0, fldT6]) (hKK _ _ rd rfl (fun _ _ _ h => h))
    · obtain rfl : kme4 = o := Option.some.inj ho
      have d0 : a.eval (.tmp 86) = .pointer (some ⟨p.b, 6, none⟩) := haft ⟨3, .data⟩ (by simp [kme4]) rfl
      exact wp_valueZ (v := .slice (some ⟨p.go, 0, none⟩) s.ord.length p.co) (w' := X) (by simp [execOp, kme4, d0, ldLi r6]) (hKK _ _ rd rfl (fun _ _ _ h => h))
    · obtain rfl : kme5 = o := Option.some.inj ho
      exact wp_valueZ (v := .int .i64 (at' : Int)) (w' := X) (by simp [execOp, kme5, fY5]) (hKK _ _ rd rfl (fun _ _ _ h => h))
    · obtain rfl : kme6 = o := Option.some.inj ho
      exact wp_valueZ (v := .slice (some ⟨ge, 0, none⟩) ne ce) (w' := X) (by simp [execOp, kme6, fY7]) (hKK _ _ rd rfl (fun _ _ _ h => h))
    · obtain rfl : kme7 = o := Option.some.inj ho
      have d0 : a.eval (.tmp 87) = .slice (some ⟨p.go, 0, none⟩) s.ord.length p.co := haft ⟨4, .data⟩ (by simp [kme7]) rfl
      have d1 : a.eval (.tmp 88) = .int .i64 (at' : Int) := haft ⟨5, .data⟩ (by simp [kme7]) rfl
      have d2 : a.eval (.tmp 89) = .slice (some ⟨ge, 0, none⟩) ne ce := haft ⟨6, .data⟩ (by simp [kme7]) rfl
      have hT := (rd.2 (hbw rfl)).to h
      have hEX : OwnL .i64 3 X Be (.slice (some ⟨ge, 0, none⟩) (ni ED).length ce) (ni ED) := by rw [ni_len]; exact hE.keep fun b e => rd.1.bx.block b (hE.lt e).2 (by cases e; exact nge)
      have hod : OwnL .i64 3 X B (.slice (some ⟨p.go, 0, none⟩) (ni s.ord).length p.co) (ni s.ord) := by rw [ni_len]; exact hT.od
      have hin := insert_any B p.go p.co ge ce at' (ni s.ord) (ni ED) X Be hod hEX (fun q => nge (by subst q; exact ⟨4, rfl⟩)) (Nat.le_trans hB rd.1.bx.size) (by rw [ni_len]; exact hat) (by rw [ni_len]; exact hE0) (by rw [ni_len, ni_len]; omega)
      rw [ni_len, ni_len, ← hne] at hin
      refine wp_enterZ (run_call3Z rfl (enters_of Try.func59 (by kernel_rfl) rfl) d0 d1 d2) hin ?_
      rintro e X' ⟨g', c', rfl, q1, q2, q3⟩
      have q0 : ni (s.ord.take at' ++ ED ++ s.ord.drop at') = (ni s.ord).take at' ++ ni ED ++ (ni s.ord).drop at' := by simp [ni, List.map_take, List.map_drop]
      have ql : (s.ord.take at' ++ ED ++ s.ord.drop at').length = (ni s.ord).length + (ni ED).length := by rw [ni_len, ni_len]; simp; omega
      exact ⟨_, rfl, hKK _ _ ⟨rd.1.bxk q2 rfl (fun i b e => (h.lt e).2) h.dis, fun e => by cases e⟩ ⟨g', c', by rw [ql], by rw [q0]; exact q1, q3.imp (fun e => by rw [e]; rfl) (fun e => by rw [hN0]; exact Nat.le_trans rd.1.bx.size e)⟩ (fun j u hj ht => kmeT_gr N0 B p s bx at' ED ge ne ce hj ht)⟩
    · obtain rfl : kme8 = o := Option.some.inj ho
      have d0 : a.eval (.tmp 83) = .pointer (some ⟨p.b, 0, none⟩) := haft ⟨0, .data⟩ (by simp [kme8]) rfl
      exact wp_valueZ (v := .pointer (some ⟨p.b, 0, none⟩)) (w' := X) (by simp [execOp, kme8, d0]) (hKK _ _ rd rfl (fun _ _ _ h => h))
    · obtain rfl : kme9 = o := Option.some.inj ho
      have d0 : a.eval (.tmp 91) = .pointer (some ⟨p.b, 0, none⟩) := haft ⟨8, .data⟩ (by simp [kme9]) rfl
      exact wp_valueZ (v := .pointer (some ⟨p.b, 6, none⟩)) (w' := X) (by simp [execOp, kme9, d0, fldT6]) (hKK _ _ rd rfl (fun _ _ _ h => h))
  · intro a X b E KK hKK
    have rd := E.rd
    have rB : X.cell? ⟨bx, 0, none⟩ = some (.pointer (some ⟨p.b, 0, none⟩)) := rd.1.oth nbx hbx
    have r6 : X.cell? ⟨p.b, 6, none⟩ = (toC p s)[6]? := rd.1.cell h (by decide) 6
    have hR0 : a.tmps.size = a0.tmps.size ∧ a.defers = a0.defers ∧ ∀ t, (∀ j, j < 10 → [83, 84, 85, 86, 87, 88, 89, 90, 91, 92].getD j 0 ≠ t) → a.eval (.tmp t) = a0.eval (.tmp t) := ⟨E.sz, E.df, E.ag⟩
    have e0 : a.eval (.tmp 92) = .pointer (some ⟨p.b, 6, none⟩) := E.vs 9 (by decide) trivial
    have e1 : (kmeT N0 B p s bx at' ED ge ne ce) 7 (a.eval (.tmp 90)) X := E.vs 7 (by decide) trivial
    clear E fin
    obtain ⟨g', c', e1', g1, g2⟩ := e1
    have hf := rd.1.frz h (by decide) 6
    obtain ⟨q1, q2, q3⟩ := h.new4 (w1 := X) (by rw [e1'] at g1; exact g1) rd.1 (fun k hk => by cases hk; rw [hN0] at g2; exact g2)
    refine wp_skipZ (w' := X.setCell ⟨p.b, 6, none⟩ (.slice (some ⟨g', 0, none⟩) (s.ord.take at' ++ ED ++ s.ord.drop at').length c')) (by simp only [execOp, kme10, e0, e1']; simp [stLi r6 hf]) ?_
    exact hKK _ _ ⟨hR0, g', c', q1, q2, q3⟩
set_option maxRecDepth 100000 in
set_option maxHeartbeats 8000000 in
theorem kme_region {Q : Exit → Act → World → Prop} (W : World) (N0 B : Nat) (p : Tl) (s : Ts) (bx at' : Nat) (ED : List Nat) (ge ne ce : Nat) (ds : List Deferred) (t0 t1 t3 t4 t6 t8 t9 t10 t11 t12 t13 t14 t15 t16 t17 t18 t19 t20 t21 t22 t23 t24 t25 t26 t27 t28 t29 t30 t31 t32 t33 t34 t35 t36 t37 t38 t39 t40 t41 t42 t43 t44 t45 t46 t47 t48 t49 t50 t51 t52 t53 t54 t55 t56 t57 t58 t59 t60 t61 t62 t63 t64 t65 t66 t67 t68 t69 t70 t71 t72 t73 t74 t75 t76 t77 t78 t79 t80 t81 t82 t83 t84 t85 t86 t87 t88 t89 t90 t91 t92 t93 t94 t95 t96 t97 t98 t99 t100 t101 t102 t103 t104 t105 t106 t107 t108 t109 t110 t111 t112 : Value)
    (hN0 : N0 = W.heap.size) (hne : ne = ED.length) (h : To B W p s) (hbx : W.cell? ⟨bx, 0, none⟩ = some (.pointer (some ⟨p.b, 0, none⟩))) (nbx : ¬ p.has bx) (hB : B ≤ W.heap.size) (Be : Nat) (hE : OwnL .i64 3 W Be (.slice (some ⟨ge, 0, none⟩) ED.length ce) (ni ED)) (nge : ¬ p.has ge) (hat : at' ≤ s.ord.length) (hE0 : 0 < ED.length) (hz : s.ord.length + ED.length ≤ 1000000)
    (fin : ∀ X (u83 u84 u85 u86 u87 u88 u89 u90 u91 u92 : Value), (fun Z => ∃ g' c', To B Z { p with go := g', co := c' } { s with ord := (s.ord.take at' ++ ED ++ s.ord.drop at') } ∧ Bx p.has W Z ∧ Gw p { p with go := g', co := c' } W.heap.size) X → Q .normal ⟨#[t0, t1, .pointer (some ⟨bx, 0, none⟩), t3, t4, .int .i64 (at' : Int), t6, .slice (some ⟨ge, 0, none⟩) ne ce, t8, t9, t10, t11, t12, t13, t14, t15, t16, t17, t18, t19, t20, t21, t22, t23, t24, t25, t26, t27, t28, t29, t30, t31, t32, t33, t34, t35, t36, t37, t38, t39, t40, t41, t42, t43, t44, t45, t46, t47, t48, t49, t50, t51, t52, t53, t54, t55, t56, t57, t58, t59, t60, t61, t62, t63, t64, t65, t66, t67, t68, t69, t70, t71, t72, t73, t74, t75, t76, t77, t78, t79, t80, t81, t82, u83, u84, u85, u86, u87, u88, u89, u90, u91, u92, t93, t94, t95, t96, t97, t98, t99, t100, t101, t102, t103, t104, t105, t106, t107, t108, t109, t110, t111, t112], ds⟩ X) :
    (Code.region 12 kmeOps true).wp Try.prog Q ⟨#[t0, t1, .pointer (some ⟨bx, 0, none⟩), t3, t4, .int .i64 (at' : Int), t6, .slice (some ⟨ge, 0, none⟩) ne ce, t8, t9, t10, t11, t12, t13, t14, t15, t16, t17, t18, t19, t20, t21, t22, t23, t24, t25, t26, t27, t28, t29, t30, t31, t32, t33, t34, t35, t36, t37, t38, t39, t40, t41, t42, t43, t44, t45, t46, t47, t48, t49, t50, t51, t52, t53, t54, t55, t56, t57, t58, t59, t60, t61, t62, t63, t64, t65, t66, t67, t68, t69, t70, t71, t72, t73, t74, t75, t76, t77, t78, t79, t80, t81, t82, t83, t84, t85, t86, t87, t88, t89, t90, t91, t92, t93, t94, t95, t96, t97, t98, t99, t100, t101, t102, t103, t104, t105, t106, t107, t108, t109, t110, t111, t112], ds⟩ W := by
  obtain ⟨a0, ha0⟩ : ∃ a0 : Act, a0 = ⟨#[t0, t1, .pointer (some ⟨bx, 0, none⟩), t3, t4, .int .i64 (at' : Int), t6, .slice (some ⟨ge, 0, none⟩) ne ce, t8, t9, t10, t11, t12, t13, t14, t15, t16, t17, t18, t19, t20, t21, t22, t23, t24, t25, t26, t27, t28, t29, t30, t31, t32, t33, t34, t35, t36, t37, t38, t39, t40, t41, t42, t43, t44, t45, t46, t47, t48, t49, t50, t51, t52, t53, t54, t55, t56, t57, t58, t59, t60, t61, t62, t63, t64, t65, t66, t67, t68, t69, t70, t71, t72, t73, t74, t75, t76, t77, t78, t79, t80, t81, t82, t83, t84, t85, t86, t87, t88, t89, t90, t91, t92, t93, t94, t95, t96, t97, t98, t99, t100, t101, t102, t103, t104, t105, t106, t107, t108, t109, t110, t111, t112], ds⟩ := ⟨_, rfl⟩
  have hs0 : a0.tmps.size = 113 := by rw [ha0]; rfl
  have hd0 : a0.defers = ds := by rw [ha0]
  have gY0 : a0.eval (.tmp 0) = t0 := by rw [ha0]; rfl
  have gY1 : a0.eval (.tmp 1) = t1 := by rw [ha0]; rfl
  have gY2 : a0.eval (.tmp 2) = .pointer (some ⟨bx, 0, none⟩) := by rw [ha0]; rfl
  have gY3 : a0.eval (.tmp 3) = t3 := by rw [ha0]; rfl
  have gY4 : a0.eval (.tmp 4) = t4 := by rw [ha0]; rfl
  have gY5 : a0.eval (.tmp 5) = .int .i64 (at' : Int) := by rw [ha0]; rfl
  have gY6 : a0.eval (.tmp 6) = t6 := by rw [ha0]; rfl
  have gY7 : a0.eval (.tmp 7) = .slice (some ⟨ge, 0, none⟩) ne ce := by rw [ha0]; rfl
  have gY8 : a0.eval (.tmp 8) = t8 := by rw [ha0]; rfl
  have gY9 : a0.eval (.tmp 9) = t9 := by rw [ha0]; rfl
  have gY10 : a0.eval (.tmp 10) = t10 := by rw [ha0]; rfl
  have gY11 : a0.eval (.tmp 11) = t11 := by rw [ha0]; rfl
  have gY12 : a0.eval (.tmp 12) = t12 := by rw [ha0]; rfl
  have gY13 : a0.eval (.tmp 13) = t13 := by rw [ha0]; rfl
  have gY14 : a0.eval (.tmp 14) = t14 := by rw [ha0]; rfl
  have gY15 : a0.eval (.tmp 15) = t15 := by rw [ha0]; rfl
  have gY16 : a0.eval (.tmp 16) = t16 := by rw [ha0]; rfl
  have gY17 : a0.eval (.tmp 17) = t17 := by rw [ha0]; rfl
  have gY18 : a0.eval (.tmp 18) = t18 := by rw [ha0]; rfl
  have gY19 : a0.eval (.tmp 19) = t19 := by rw [ha0]; rfl
  have gY20 : a0.eval (.tmp 20) = t20 := by rw [ha0]; rfl
  have gY21 : a0.eval (.tmp 21) = t21 := by rw [ha0]; rfl
  have gY22 : a0.eval (.tmp 22) = t22 := by rw [ha0]; rfl
  have gY23 : a0.eval (.tmp 23) = t23 := by rw [ha0]; rfl
  have gY24 : a0.eval (.tmp 24) = t24 := by rw [ha0]; rfl
  have gY25 : a0.eval (.tmp 25) = t25 := by rw [ha0]; rfl
  have gY26 : a0.eval (.tmp 26) = t26 := by rw [ha0]; rfl
  have gY27 : a0.eval (.tmp 27) = t27 := by rw [ha0]; rfl
  have gY28 : a0.eval (.tmp 28) = t28 := by rw [ha0]; rfl
  have gY29 : a0.eval (.tmp 29) = t29 := by rw [ha0]; rfl
  have gY30 : a0.eval (.tmp 30) = t30 := by rw [ha0]; rfl
  have gY31 : a0.eval (.tmp 31) = t31 := by rw [ha0]; rfl
  have gY32 : a0.eval (.tmp 32) = t32 := by rw [ha0]; rfl
  have gY33 : a0.eval (.tmp 33) = t33 := by rw [ha0]; rfl
  have gY34 : a0.eval (.tmp 34) = t34 := by rw [ha0]; rfl
  have gY35 : a0.eval (.tmp 35) = t35 := by rw [ha0]; rfl
  have gY36 : a0.eval (.tmp 36) = t36 := by rw [ha0]; rfl
  have gY37 : a0.eval (.tmp 37) = t37 := by rw [ha0]; rfl
  have gY38 : a0.eval (.tmp 38) = t38 := by rw [ha0]; rfl
  have gY39 : a0.eval (.tmp 39) = t39 := by rw [ha0]; rfl
  have gY40 : a0.eval (.tmp 40) = t40 := by rw [ha0]; rfl
  have gY41 : a0.eval (.tmp 41) = t41 := by rw [ha0]; rfl
  have gY42 : a0.eval (.tmp 42) = t42 := by rw [ha0]; rfl
  have gY43 : a0.eval (.tmp 43) = t43 := by rw [ha0]; rfl
  have gY44 : a0.eval (.tmp 44) = t44 := by rw [ha0]; rfl
  have gY45 : a0.eval (.tmp 45) = t45 := by rw [ha0]; rfl
  have gY46 : a0.eval (.tmp 46) = t46 := by rw [ha0]; rfl
  have gY47 : a0.eval (.tmp 47) = t47 := by rw [ha0]; rfl
  have gY48 : a0.eval (.tmp 48) = t48 := by rw [ha0]; rfl
  have gY49 : a0.eval (.tmp 49) = t49 := by rw [ha0]; rfl
  have gY50 : a0.eval (.tmp 50) = t50 := by rw [ha0]; rfl
  have gY51 : a0.eval (.tmp 51) = t51 := by rw [ha0]; rfl
  have gY52 : a0.eval (.tmp 52) = t52 := by rw [ha0]; rfl
  have gY53 : a0.eval (.tmp 53) = t53 := by rw [ha0]; rfl
  have gY54 : a0.eval (.tmp 54) = t54 := by rw [ha0]; rfl
  have gY55 : a0.eval (.tmp 55) = t55 := by rw [ha0]; rfl
  have gY56 : a0.eval (.tmp 56) = t56 := by rw [ha0]; rfl
  have gY57 : a0.eval (.tmp 57) = t57 := by rw [ha0]; rfl
  have gY58 : a0.eval (.tmp 58) = t58 := by rw [ha0]; rfl
  have gY59 : a0.eval (.tmp 59) = t59 := by rw [ha0]; rfl
  have gY60 : a0.eval (.tmp 60) = t60 := by rw [ha0]; rfl
  have gY61 : a0.eval (.tmp 61) = t61 := by rw [ha0]; rfl
  have gY62 : a0.eval (.tmp 62) = t62 := by rw [ha0]; rfl
  have gY63 : a0.eval (.tmp 63) = t63 := by rw [ha0]; rfl
  have gY64 : a0.eval (.tmp 64) = t64 := by rw [ha0]; rfl
  have gY65 : a0.eval (.tmp 65) = t65 := by rw [ha0]; rfl
  have gY66 : a0.eval (.tmp 66) = t66 := by rw [ha0]; rfl
  have gY67 : a0.eval (.tmp 67) = t67 := by rw [ha0]; rfl
  have gY68 : a0.eval (.tmp 68) = t68 := by rw [ha0]; rfl
  have gY69 : a0.eval (.tmp 69) = t69 := by rw [ha0]; rfl
  have gY70 : a0.eval (.tmp 70) = t70 := by rw [ha0]; rfl
  have gY71 : a0.eval (.tmp 71) = t71 := by rw [ha0]; rfl
  have gY72 : a0.eval (.tmp 72) = t72 := by rw [ha0]; rfl
  have gY73 : a0.eval (.tmp 73) = t73 := by rw [ha0]; rfl
  have gY74 : a0.eval (.tmp 74) = t74 := by rw [ha0]; rfl
  have gY75 : a0.eval (.tmp 75) = t75 := by rw [ha0]; rfl
  have gY76 : a0.eval (.tmp 76) = t76 := by rw [ha0]; rfl
  have gY77 : a0.eval (.tmp 77) = t77 := by rw [ha0]; rfl
  have gY78 : a0.eval (.tmp 78) = t78 := by rw [ha0]; rfl
  have gY79 : a0.eval (.tmp 79) = t79 := by rw [ha0]; rfl
  have gY80 : a0.eval (.tmp 80) = t80 := by rw [ha0]; rfl
  have gY81 : a0.eval (.tmp 81) = t81 := by rw [ha0]; rfl
  have gY82 : a0.eval (.tmp 82) = t82 := by rw [ha0]; rfl
  have gY93 : a0.eval (.tmp 93) = t93 := by rw [ha0]; rfl
  have gY94 : a0.eval (.tmp 94) = t94 := by rw [ha0]; rfl
  have gY95 : a0.eval (.tmp 95) = t95 := by rw [ha0]; rfl
  have gY96 : a0.eval (.tmp 96) = t96 := by rw [ha0]; rfl
  have gY97 : a0.eval (.tmp 97) = t97 := by rw [ha0]; rfl
  have gY98 : a0.eval (.tmp 98) = t98 := by rw [ha0]; rfl
  have gY99 : a0.eval (.tmp 99) = t99 := by rw [ha0]; rfl
  have gY100 : a0.eval (.tmp 100) = t100 := by rw [ha0]; rfl
  have gY101 : a0.eval (.tmp 101) = t101 := by rw [ha0]; rfl
  have gY102 : a0.eval (.tmp 102) = t102 := by rw [ha0]; rfl
  have gY103 : a0.eval (.tmp 103) = t103 := by rw [ha0]; rfl
  have gY104 : a0.eval (.tmp 104) = t104 := by rw [ha0]; rfl
  have gY105 : a0.eval (.tmp 105) = t105 := by rw [ha0]; rfl
  have gY106 : a0.eval (.tmp 106) = t106 := by rw [ha0]; rfl
  have gY107 : a0.eval (.tmp 107) = t107 := by rw [ha0]; rfl
  have gY108 : a0.eval (.tmp 108) = t108 := by rw [ha0]; rfl
  have gY109 : a0.eval (.tmp 109) = t109 := by rw [ha0]; rfl
  have gY110 : a0.eval (.tmp 110) = t110 := by rw [ha0]; rfl
  have gY111 : a0.eval (.tmp 111) = t111 := by rw [ha0]; rfl
  have gY112 : a0.eval (.tmp 112) = t112 := by rw [ha0]; rfl
  rw [← ha0]
  refine kme_core W N0 B p s bx at' ED ge ne ce a0 hs0 gY2 gY5 gY7 hN0 hne h hbx nbx hB Be hE nge hat hE0 hz ?_
  clear ha0
  rintro a X ⟨es, ed, ag⟩ hF
  have hq := fin X (a.eval (.tmp 83)) (a.eval (.tmp 84)) (a.eval (.tmp 85)) (a.eval (.tmp 86)) (a.eval (.tmp 87)) (a.eval (.tmp 88)) (a.eval (.tmp 89)) (a.eval (.tmp 90)) (a.eval (.tmp 91)) (a.eval (.tmp 92)) hF
  have ea : a = ⟨#[a.eval (.tmp 0), a.eval (.tmp 1), a.eval (.tmp 2), a.eval (.tmp 3), a.eval (.tmp 4), a.eval (.tmp 5), a.eval (.tmp 6), a.eval (.tmp 7), a.eval (.tmp 8), a.eval (.tmp 9), a.eval (.tmp 10), a.eval (.tmp 11), a.eval (.tmp 12), a.eval (.tmp 13), a.eval (.tmp 14), a.eval (.tmp 15), a.eval (.tmp 16), a.eval (.tmp 17), a.eval (.tmp 18), a.eval (.tmp 19), a.eval (.tmp 20), a.eval (.tmp 21), a.eval (.tmp 22), a.eval (.tmp 23), a.eval (.tmp 24), a.eval (.tmp 25), a.eval (.tmp 26), a.eval (.tmp 27), a.eval (.tmp 28), a.eval (.tmp 29), a.eval (.tmp 30), a.eval (.tmp 31), a.eval (.tmp 32), a.eval (.tmp 33), a.eval (.tmp 34), a.eval (.tmp 35), a.eval (.tmp 36), a.eval (.tmp 37), a.eval (.tmp 38), a.eval (.tmp 39), a.eval (.tmp 40), a.eval (.tmp 41), a.eval (.tmp 42), a.eval (.tmp 43), a.eval (.tmp 44), a.eval (.tmp 45), a.eval (.tmp 46), a.eval (.tmp 47), a.eval (.tmp 48), a.eval (.tmp 49), a.eval (.tmp 50), a.eval (.tmp 51), a.eval (.tmp 52), a.eval (.tmp 53), a.eval (.tmp 54), a.eval (.tmp 55), a.eval (.tmp 56), a.eval (.tmp 57), a.eval (.tmp 58), a.eval (.tmp 59), a.eval (.tmp 60), a.eval (.tmp 61), a.eval (.tmp 62), a.eval (.tmp 63), a.eval (.tmp 64), a.eval (.tmp 65), a.eval (.tmp 66), a.eval (.tmp 67), a.eval (.tmp 68), a.eval (.tmp 69), a.eval (.tmp 70), a.eval (.tmp 71), a.eval (.tmp 72), a.eval (.tmp 73), a.eval (.tmp 74), a.eval (.tmp 75), a.eval (.tmp 76), a.eval (.tmp 77), a.eval (.tmp 78), a.eval (.tmp 79), a.eval (.tmp 80), a.eval (.tmp 81), a.eval (.tmp 82), a.eval (.tmp 83), a.eval (.tmp 84), a.eval (.tmp 85), a.eval (.tmp 86), a.eval (.tmp 87), a.eval (.tmp 88), a.eval (.tmp 89), a.eval (.tmp 90), a.eval (.tmp 91), a.eval (.tmp 92), a.eval (.tmp 93), a.eval (.tmp 94), a.eval (.tmp 95), a.eval (.tmp 96), a.eval (.tmp 97), a.eval (.tmp 98), a.eval (.tmp 99), a.eval (.tmp 100), a.eval (.tmp 101), a.eval (.tmp 102), a.eval (.tmp 103), a.eval (.tmp 104), a.eval (.tmp 105), a.eval (.tmp 106), a.eval (.tmp 107), a.eval (.tmp 108), a.eval (.tmp 109), a.eval (.tmp 110), a.eval (.tmp 111), a.eval (.tmp 112)], a.defers⟩ := act_eta a 113 (es.trans hs0)
  rw [ea, ed, hd0]
  have kY0 : a.eval (.tmp 0) = t0 := (ag 0 (by decide)).trans gY0
  have kY1 : a.eval (.tmp 1) = t1 := (ag 1 (by decide)).trans gY1
  have kY2 : a.eval (.tmp 2) = .pointer (some ⟨bx, 0, none⟩) := (ag 2 (by decide)).trans gY2
  have kY3 : a.eval (.tmp 3) = t3 := (ag 3 (by decide)).trans gY3
  have kY4 : a.eval (.tmp 4) = t4 := (ag 4 (by decide)).trans gY4
  have kY5 : a.eval (.tmp 5) = .int .i64 (at' : Int) := (ag 5 (by decide)).trans gY5
  have kY6 : a.eval (.tmp 6) = t6 := (ag 6 (by decide)).trans gY6
  have kY7 : a.eval (.tmp 7) = .slice (some ⟨ge, 0, none⟩) ne ce := (ag 7 (by decide)).trans gY7
  have kY8 : a.eval (.tmp 8) = t8 := (ag 8 (by decide)).trans gY8
  have kY9 : a.eval (.tmp 9) = t9 := (ag 9 (by decide)).trans gY9
  have kY10 : a.eval (.tmp 10) = t10 := (ag 10 (by decide)).trans gY10
  have kY11 : a.eval (.tmp 11) = t11 := (ag 11 (by decide)).trans gY11
  have kY12 : a.eval (.tmp 12) = t12 := (ag 12 (by decide)).trans gY12
  have kY13 : a.eval (.tmp 13) = t13 := (ag 13 (by decide)).trans gY13
  have kY14 : a.eval (.tmp 14) = t14 := (ag 14 (by decide)).trans gY14
  have kY15 : a.eval (.tmp 15) = t15 := (ag 15 (by decide)).trans gY15
  have kY16 : a.eval (.tmp 16) = t16 := (ag 16 (by decide)).trans gY16
  have kY17 : a.eval (.tmp 17) = t17 := (ag 17 (by decide)).trans gY17
  have kY18 : a.eval (.tmp 18) = t18 := (ag 18 (by decide)).trans gY18
  have kY19 : a.eval (.tmp 19) = t19 := (ag 19 (by decide)).trans gY19
  have kY20 : a.eval (.tmp 20) = t20 := (ag 20 (by decide)).trans gY20
  have kY21 : a.eval (.tmp 21) = t21 := (ag 21 (by decide)).trans gY21
  have kY22 : a.eval (.tmp 22) = t22 := (ag 22 (by decide)).trans gY22
  have kY23 : a.eval (.tmp 23) = t23 := (ag 23 (by decide)).trans gY23
  have kY24 : a.eval (.tmp 24) = t24 := (ag 24 (by decide)).trans gY24
  have kY25 : a.eval (.tmp 25) = t25 := (ag 25 (by decide)).trans gY25
  have kY26 : a.eval (.tmp 26) = t26 := (ag 26 (by decide)).trans gY26
  have kY27 : a.eval (.tmp 27) = t27 := (ag 27 (by decide)).trans gY27
  have kY28 : a.eval (.tmp 28) = t28 := (ag 28 (by decide)).trans gY28
  have kY29 : a.eval (.tmp 29) = t29 := (ag 29 (by decide)).trans gY29
  have kY30 : a.eval (.tmp 30) = t30 := (ag 30 (by decide)).trans gY30
  have kY31 : a.eval (.tmp 31) = t31 := (ag 31 (by decide)).trans gY31
  have kY32 : a.eval (.tmp 32) = t32 := (ag 32 (by decide)).trans gY32
  have kY33 : a.eval (.tmp 33) = t33 := (ag 33 (by decide)).trans gY33
  have kY34 : a.eval (.tmp 34) = t34 := (ag 34 (by decide)).trans gY34
  have kY35 : a.eval (.tmp 35) = t35 := (ag 35 (by decide)).trans gY35
  have kY36 : a.eval (.tmp 36) = t36 := (ag 36 (by decide)).trans gY36
  have kY37 : a.eval (.tmp 37) = t37 := (ag 37 (by decide)).trans gY37
  have kY38 : a.eval (.tmp 38) = t38 := (ag 38 (by decide)).trans gY38
  have kY39 : a.eval (.tmp 39) = t39 := (ag 39 (by decide)).trans gY39
  have kY40 : a.eval (.tmp 40) = t40 := (ag 40 (by decide)).trans gY40
  have kY41 : a.eval (.tmp 41) = t41 := (ag 41 (by decide)).trans gY41
  have kY42 : a.eval (.tmp 42) = t42 := (ag 42 (by decide)).trans gY42
  have kY43 : a.eval (.tmp 43) = t43 := (ag 43 (by decide)).trans gY43
  have kY44 : a.eval (.tmp 44) = t44 := (ag 44 (by decide)).trans gY44
  have kY45 : a.eval (.tmp 45) = t45 := (ag 45 (by decide)).trans gY45
  have kY46 : a.eval (.tmp 46) = t46 := (ag 46 (by decide)).trans gY46
  have kY47 : a.eval (.tmp 47) = t47 := (ag 47 (by decide)).trans gY47
  have kY48 : a.eval (.tmp 48) = t48 := (ag 48 (by decide)).trans gY48
  have kY49 : a.eval (.tmp 49) = t49 := (ag 49 (by decide)).trans gY49
  have kY50 : a.eval (.tmp 50) = t50 := (ag 50 (by decide)).trans gY50
  have kY51 : a.eval (.tmp 51) = t51 := (ag 51 (by decide)).trans gY51
  have kY52 : a.eval (.tmp 52) = t52 := (ag 52 (by decide)).trans gY52
  have kY53 : a.eval (.tmp 53) = t53 := (ag 53 (by decide)).trans gY53
  have kY54 : a.eval (.tmp 54) = t54 := (ag 54 (by decide)).trans gY54
  have kY55 : a.eval (.tmp 55) = t55 := (ag 55 (by decide)).trans gY55
  have kY56 : a.eval (.tmp 56) = t56 := (ag 56 (by decide)).trans gY56
  have kY57 : a.eval (.tmp 57) = t57 := (ag 57 (by decide)).trans gY57
  have kY58 : a.eval (.tmp 58) = t58 := (ag 58 (by decide)).trans gY58
  have kY59 : a.eval (.tmp 59) = t59 := (ag 59 (by decide)).trans gY59
  have kY60 : a.eval (.tmp 60) = t60 := (ag 60 (by decide)).trans gY60
  have kY61 : a.eval (.tmp 61) = t61 := (ag 61 (by decide)).trans gY61
  have kY62 : a.eval (.tmp 62) = t62 := (ag 62 (by decide)).trans gY62
  have kY63 : a.eval (.tmp 63) = t63 := (ag 63 (by decide)).trans gY63
  have kY64 : a.eval (.tmp 64) = t64 := (ag 64 (by decide)).trans gY64
  have kY65 : a.eval (.tmp 65) = t65 := (ag 65 (by decide)).trans gY65
  have kY66 : a.eval (.tmp 66) = t66 := (ag 66 (by decide)).trans gY66
  have kY67 : a.eval (.tmp 67) = t67 := (ag 67 (by decide)).trans gY67
  have kY68 : a.eval (.tmp 68) = t68 := (ag 68 (by decide)).trans gY68
  have kY69 : a.eval (.tmp 69) = t69 := (ag 69 (by decide)).trans gY69
  have kY70 : a.eval (.tmp 70) = t70 := (ag 70 (by decide)).trans gY70
  have kY71 : a.eval (.tmp 71) = t71 := (ag 71 (by decide)).trans gY71
  have kY72 : a.eval (.tmp 72) = t72 := (ag 72 (by decide)).trans gY72
  have kY73 : a.eval (.tmp 73) = t73 := (ag 73 (by decide)).trans gY73
  have kY74 : a.eval (.tmp 74) = t74 := (ag 74 (by decide)).trans gY74
  have kY75 : a.eval (.tmp 75) = t75 := (ag 75 (by decide)).trans gY75
  have kY76 : a.eval (.tmp 76) = t76 := (ag 76 (by decide)).trans gY76
  have kY77 : a.eval (.tmp 77) = t77 := (ag 77 (by decide)).trans gY77
  have kY78 : a.eval (.tmp 78) = t78 := (ag 78 (by decide)).trans gY78
  have kY79 : a.eval (.tmp 79) = t79 := (ag 79 (by decide)).trans gY79
  have kY80 : a.eval (.tmp 80) = t80 := (ag 80 (by decide)).trans gY80
  have kY81 : a.eval (.tmp 81) = t81 := (ag 81 (by decide)).trans gY81
  have kY82 : a.eval (.tmp 82) = t82 := (ag 82 (by decide)).trans gY82
  have kY93 : a.eval (.tmp 93) = t93 := (ag 93 (by decide)).trans gY93
  have kY94 : a.eval (.tmp 94) = t94 := (ag 94 (by decide)).trans gY94
  have kY95 : a.eval (.tmp 95) = t95 := (ag 95 (by decide)).trans gY95
  have kY96 : a.eval (.tmp 96) = t96 := (ag 96 (by decide)).trans gY96
  have kY97 : a.eval (.tmp 97) = t97 := (ag 97 (by decide)).trans gY97
  have kY98 : a.eval (.tmp 98) = t98 := (ag 98 (by decide)).trans gY98
  have kY99 : a.eval (.tmp 99) = t99 := (ag 99 (by decide)).trans gY99
  have kY100 : a.eval (.tmp 100) = t100 := (ag 100 (by decide)).trans gY100
  have kY101 : a.eval (.tmp 101) = t101 := (ag 101 (by decide)).trans gY101
  have kY102 : a.eval (.tmp 102) = t102 := (ag 102 (by decide)).trans gY102
  have kY103 : a.eval (.tmp 103) = t103 := (ag 103 (by decide)).trans gY103
  have kY104 : a.eval (.tmp 104) = t104 := (ag 104 (by decide)).trans gY104
  have kY105 : a.eval (.tmp 105) = t105 := (ag 105 (by decide)).trans gY105
  have kY106 : a.eval (.tmp 106) = t106 := (ag 106 (by decide)).trans gY106
  have kY107 : a.eval (.tmp 107) = t107 := (ag 107 (by decide)).trans gY107
  have kY108 : a.eval (.tmp 108) = t108 := (ag 108 (by decide)).trans gY108
  have kY109 : a.eval (.tmp 109) = t109 := (ag 109 (by decide)).trans gY109
  have kY110 : a.eval (.tmp 110) = t110 := (ag 110 (by decide)).trans gY110
  have kY111 : a.eval (.tmp 111) = t111 := (ag 111 (by decide)).trans gY111
  have kY112 : a.eval (.tmp 112) = t112 := (ag 112 (by decide)).trans gY112
  rw [kY0, kY1, kY2, kY3, kY4, kY5, kY6, kY7, kY8, kY9, kY10, kY11, kY12, kY13, kY14, kY15, kY16, kY17, kY18, kY19, kY20, kY21, kY22, kY23, kY24, kY25, kY26, kY27, kY28, kY29, kY30, kY31, kY32, kY33, kY34, kY35, kY36, kY37, kY38, kY39, kY40, kY41, kY42, kY43, kY44, kY45, kY46, kY47, kY48, kY49, kY50, kY51, kY52, kY53, kY54, kY55, kY56, kY57, kY58, kY59, kY60, kY61, kY62, kY63, kY64, kY65, kY66, kY67, kY68, kY69, kY70, kY71, kY72, kY73, kY74, kY75, kY76, kY77, kY78, kY79, kY80, kY81, kY82, kY93, kY94, kY95, kY96, kY97, kY98, kY99, kY100, kY101, kY102, kY103, kY104, kY105, kY106, kY107, kY108, kY109, kY110, kY111, kY112]
  exact hq

end Go.Proofs.Ytepmdnggiajkbaa

/-
  The program's makeRow: where its edges stand in the order.
-/
namespace Go.Proofs.Ytepmdnggiajkbaa
set_option linter.unusedVariables false
open Go.RowKit

set_option maxRecDepth 100000 in
theorem cmpAt_any {B : Nat} {w : World} {p : Tl} {s : Ts} (h : To B w p s) {bx : Nat} (hbx : w.cell? ⟨bx, 0, none⟩ = some (.pointer (some ⟨p.b, 0, none⟩))) {i : Nat} (hi : i < s.ls.length) (hw : Sb (s.wd i)) {v : List Int} (hv : Sb v) :
    Calls Try.prog 58 #[.int .i64 (i : Int), .string (sp v), .pointer (some ⟨bx, 0, none⟩)] w fun e w' => e = .returned (.int .i64 (cmS (s.wd i) v)) ∧ Below w.heap.size w w' := by
  have c4 := h.c4
  obtain ⟨l0, -⟩ := h.lc hi
  have hi' : (i : Int) < (s.ls.length : Int) := by omega
  have hlen := h.lnc
  have hc := spcmp_any (s.wd i) v w hw hv
  have hwd : (s.ln i).wd = s.wd i := rfl
  rw [hwd] at l0
  clear h hw hv hwd
  generalize s.wd i = u at *
  go_enter Try.func58, Try.ntmps58
  go_wp2_with fail
  refine hc.mono ?_
  rintro e w1 ⟨rfl, hw1⟩
  subst hw1
  go_wp2
  go_ret
  exact ⟨rfl, Below.refl _ _⟩
theorem run_mkF {w : World} (bx : Nat) : (Instr.makeFunc (.func 58) #[] #[.pointer (some ⟨bx, 0, none⟩)]).run Try.prog w = .ok (.func (.func 58) #[] #[.pointer (some ⟨bx, 0, none⟩)]) w := by
  go_simp
def kmd0 : Oper := { dst := some 42, op := Op.load 23 (Operand.tmp 2), type := 23, pos := "line.go:53", after := #[], guard := none }
def kmd1 : Oper := { dst := some 43, op := Op.nilCheck (Operand.tmp 42), type := 0, pos := "line.go:53", after := #[{ on := 0, ground := Ground.data }], guard := none }
def kmd2 : Oper := { dst := some 44, op := Op.fieldAddr 62 (Operand.tmp 43) 6, type := 0, pos := "line.go:53", after := #[{ on := 1, ground := Ground.data }], guard := none }
def kmd3 : Oper := { dst := some 45, op := Op.load 57 (Operand.tmp 44), type := 57, pos := "line.go:53", after := #[{ on := 2, ground := Ground.data }], guard := none }
def kmd4 : Oper := { dst := some 46, op := Op.move (Operand.tmp 4), type := 47, pos := "line.go:53", after := #[], guard := none }
def kmd5 : Oper := { dst := some 47, op := Op.call { callee := Callee.value (Operand.func 57), args := #[Operand.const (Value.int IntKind.i64 0)], argTypes := #[3] }, type := 47, pos := "line.go:53", after := #[], guard := none }
def kmd6 : Oper := { dst := some 48, op := Op.binOp BinOp.add 47 (Operand.tmp 46) (Operand.tmp 47) 47, type := 47, pos := "line.go:53", after := #[{ on := 4, ground := Ground.data }, { on := 5, ground := Ground.data }], guard := none }
def kmd7 : Oper := { dst := some 49, op := Op.makeFunc (Fn.func 58) #[] #[Operand.tmp 2], type := 105, pos := "line.go:53", after := #[], guard := none }
def kmd8 : Oper := { dst := some 50, op := Op.call { callee := Callee.value (Operand.func 56), args := #[Operand.tmp 45, Operand.tmp 48, Operand.tmp 49], argTypes := #[57, 47, 105] }, type := 51, pos := "line.go:53", after := #[{ on := 3, ground := Ground.data }, { on := 6, ground := Ground.data }, { on := 7, ground := Ground.data }, { on := 5, ground := Ground.chain }], guard := none }
def kmd9 : Oper := { dst := some 41, op := Op.move (Operand.tmp 50), type := 51, pos := "line.go:53", after := #[{ on := 8, ground := Ground.data }], guard := none }
def kmd10 : Oper := { dst := some 51, op := Op.extract (Operand.tmp 41) 0, type := 3, pos := "line.go:53", after := #[{ on := 9, ground := Ground.data }], guard := none }
def kmd11 : Oper := { dst := some 52, op := Op.extract (Operand.tmp 41) 1, type := 4, pos := "line.go:53", after := #[{ on := 9, ground := Ground.data }, { on := 12, ground := Ground.gcOnly Departure.lateStores }], guard := none }
def kmd12 : Oper := { dst := some 5, op := Op.assign (Operand.tmp 51), type := 3, pos := "line.go:53", after := #[{ on := 10, ground := Ground.data }, { on := 8, ground := Ground.chain }, { on := 0, ground := Ground.phase }, { on := 1, ground := Ground.phase }, { on := 2, ground := Ground.phase }, { on := 3, ground := Ground.phase }, { on := 4, ground := Ground.phase }, { on := 5, ground := Ground.phase }, { on := 6, ground := Ground.phase }, { on := 7, ground := Ground.phase }, { on := 8, ground := Ground.phase }, { on := 9, ground := Ground.phase }, { on := 10, ground := Ground.phase }, { on := 11, ground := Ground.textOnly Departure.lateStores }], guard := none }
def kmd13 : Oper := { dst := some 6, op := Op.assign (Operand.tmp 52), type := 4, pos := "line.go:53", after := #[{ on := 11, ground := Ground.data }, { on := 12, ground := Ground.chain }, { on := 0, ground := Ground.phase }, { on := 1, ground := Ground.phase }, { on := 2, ground := Ground.phase }, { on := 3, ground := Ground.phase }, { on := 4, ground := Ground.phase }, { on := 5, ground := Ground.phase }, { on := 6, ground := Ground.phase }, { on := 7, ground := Ground.phase }, { on := 8, ground := Ground.phase }, { on := 9, ground := Ground.phase }, { on := 10, ground := Ground.phase }, { on := 11, ground := Ground.phase }, { on := 12, ground := Ground.phase }], guard := none }
def kmdOps : Array Oper := #[kmd0, kmd1, kmd2, kmd3, kmd4, kmd5, kmd6, kmd7, kmd8, kmd9, kmd10, kmd11, kmd12, kmd13]

def kmdT (B : Nat) (p : Tl) (s : Ts) (bx : Nat) (wd : List Int) : Nat → Value → World → Prop
  | 0, v, _ => v = .pointer (some ⟨p.b, 0, none⟩)
  | 1, v, _ => v = .pointer (some ⟨p.b, 0, none⟩)
  | 2, v, _ => v = .pointer (some ⟨p.b, 6, none⟩)
  | 3, v, _ => v = .slice (some ⟨p.go, 0, none⟩) s.ord.length p.co
  | 4, v, _ => v = .string (sp wd)
  | 5, v, _ => v = .string (sp [(0 : Int)])
  | 6, v, _ => v = .string (sp (wd ++ [0]))
  | 7, v, _ => v = .func (.func 58) #[] #[.pointer (some ⟨bx, 0, none⟩)]
  | 8, v, W => ∃ (k : Nat) (bb : Bool), v = .tuple #[.int .i64 (k : Int), .bool bb] ∧ k ≤ s.ord.length ∧ (∀ i, i < k → cmS (s.wd (s.ord.getD i 0)) (wd ++ [0]) < 0) ∧ ∀ i, k ≤ i → i < s.ord.length → 0 ≤ cmS (s.wd (s.ord.getD i 0)) (wd ++ [0])
  | 9, v, W => ∃ (k : Nat) (bb : Bool), v = .tuple #[.int .i64 (k : Int), .bool bb] ∧ k ≤ s.ord.length ∧ (∀ i, i < k → cmS (s.wd (s.ord.getD i 0)) (wd ++ [0]) < 0) ∧ ∀ i, k ≤ i → i < s.ord.length → 0 ≤ cmS (s.wd (s.ord.getD i 0)) (wd ++ [0])
  | 10, v, W => ∃ k : Nat, v = .int .i64 (k : Int) ∧ k ≤ s.ord.length ∧ (∀ i, i < k → cmS (s.wd (s.ord.getD i 0)) (wd ++ [0]) < 0) ∧ ∀ i, k ≤ i → i < s.ord.length → 0 ≤ cmS (s.wd (s.ord.getD i 0)) (wd ++ [0])
  | 11, v, W => ∃ bb : Bool, v = .bool bb
  | 12, v, W => ∃ k : Nat, v = .int .i64 (k : Int) ∧ k ≤ s.ord.length ∧ (∀ i, i < k → cmS (s.wd (s.ord.getD i 0)) (wd ++ [0]) < 0) ∧ ∀ i, k ≤ i → i < s.ord.length → 0 ≤ cmS (s.wd (s.ord.getD i 0)) (wd ++ [0])
  | 13, v, W => ∃ bb : Bool, v = .bool bb
  | _, _, _ => True
theorem kmdT_below (B : Nat) (p : Tl) (s : Ts) (bx : Nat) (wd : List Int) {v : Value} {W W' : World} (hb : Below W.heap.size W W') : ∀ {i : Nat}, kmdT B p s bx wd i v W → kmdT B p s bx wd i v W'
  | 0, h => h
  | 1, h => h
  | 2, h => h
  | 3, h => h
  | 4, h => h
  | 5, h => h
  | 6, h => h
  | 7, h => h
  | 8, h => h
  | 9, h => h
  | 10, h => h
  | 11, h => h
  | 12, h => h
  | 13, h => h
  | _ + 14, h => h
set_option maxRecDepth 100000 in
set_option maxHeartbeats 1000000 in
theorem kmd_ok : okG kmdOps [42, 43, 44, 45, 46, 47, 48, 49, 50, 41, 51, 52, 5, 6] = true := by kernel_rfl
set_option maxRecDepth 100000 in
set_option maxHeartbeats 8000000 in
theorem kmd_core {Q : Exit → Act → World → Prop} (W : World) (B : Nat) (p : Tl) (s : Ts) (bx : Nat) (wd : List Int) (a0 : Act) (hs0 : a0.tmps.size = 113) (eY2 : a0.eval (.tmp 2) = .pointer (some ⟨bx, 0, none⟩)) (eY4 : a0.eval (.tmp 4) = .string (sp wd))
    (h : To B W p s) (hbx : W.cell? ⟨bx, 0, none⟩ = some (.pointer (some ⟨p.b, 0, none⟩))) (hwd : wd.length ≤ 8000000)
    (hbs : ∀ X, Below W.heap.size W X → Calls Try.prog 56 #[.slice (some ⟨p.go, 0, none⟩) s.ord.length p.co, .string (sp (wd ++ [0])), .func (.func 58) #[] #[.pointer (some ⟨bx, 0, none⟩)]] X (BsPost s.ord.length (fun i => cmS (s.wd (s.ord.getD i 0)) (wd ++ [0])) X))
    (fin : ∀ a X, EInv a0 W 14 (fun i => [42, 43, 44, 45, 46, 47, 48, 49, 50, 41, 51, 52, 5, 6].getD i 0) (kmdT B p s bx wd) (fun _ => True) a X → Q .normal a X) :
    (Code.region 4 kmdOps true).wp Try.prog Q a0 W := by
  refine wp_region_guard (by kernel_rfl) a0 W 14 (fun i => [42, 43, 44, 45, 46, 47, 48, 49, 50, 41, 51, 52, 5, 6].getD i 0) (kmdT B p s bx wd) rfl (fun _ _ _ _ h hb => kmdT_below B p s bx wd hb h) (by decide) (fun i hi => by rw [hs0]; exact (show ∀ i, i < 14 → [42, 43, 44, 45, 46, 47, 48, 49, 50, 41, 51, 52, 5, 6].getD i 0 < 113 by decide) i hi) (hdG_of kmd_ok) ?_ fin
  intro j o ho a X E haft KK hKK
  have hj : j < 14 := (Array.getElem?_eq_some_iff.1 ho).1
  have hsz : a.tmps.size = 113 := E.sz.trans hs0
  have fY2 : a.eval (.tmp 2) = .pointer (some ⟨bx, 0, none⟩) := (E.ag 2 (by decide)).trans eY2
  have fY4 : a.eval (.tmp 4) = .string (sp wd) := (E.ag 4 (by decide)).trans eY4
  have r := Below.refl X.heap.size X
  have bl := E.bl
  clear E fin
  rcases (by omega : j = 0 ∨ j = 1 ∨ j = 2 ∨ j = 3 ∨ j = 4 ∨ j = 5 ∨ j = 6 ∨ j = 7 ∨ j = 8 ∨ j = 9 ∨ j = 10 ∨ j = 11 ∨ j = 12 ∨ j = 13) with rfl | rfl | rfl | rfl | rfl | rfl | rfl | rfl | rfl | rfl | rfl | rfl | rfl | rfl
  · obtain rfl : kmd0 = o := Option.some.inj ho
    refine wpOp_on ho (wanted_none rfl) ?_
    have qb : X.cell? ⟨bx, 0, none⟩ = some (.pointer (some ⟨p.b, 0, none⟩)) := (bl.cell (p := ⟨bx, 0, none⟩) (World.block_lt_of_cell? W _ hbx)).trans hbx
    exact wp_valueZ (v := .pointer (some ⟨p.b, 0, none⟩)) (w' := X) (by simp [execOp, kmd0, fY2, ldTb qb]) (hKK _ _ r rfl)
  · obtain rfl : kmd1 = o := Option.some.inj ho
    refine wpOp_on ho (wanted_none rfl) ?_
    have d0 : a.eval (.tmp 42) = .pointer (some ⟨p.b, 0, none⟩) := haft ⟨0, .data⟩ (by simp [kmd1]) rfl
    exact wp_valueZ (v := .pointer (some ⟨p.b, 0, none⟩)) (w' := X) (by simp [execOp, kmd1, d0]) (hKK _ _ r rfl)
  · obtain rfl : kmd2 = o := Option.some.inj ho
    refine wpOp_on ho (wanted_none rfl) ?_
    have d0 : a.eval (.tmp 43) = .pointer (some ⟨p.b, 0, none⟩) := haft ⟨1, .data⟩ (by simp [kmd2]) rfl
    exact wp_valueZ (v := .pointer (some ⟨p.b, 6, none⟩)) (w' := X) (by simp [execOp, kmd2, d0, fldT6]) (hKK _ _ r rfl)
  · obtain rfl : kmd3 = o := Option.some.inj ho
    refine wpOp_on ho (wanted_none rfl) ?_
    have q6 : X.cell? ⟨p.b, 6, none⟩ = some (.slice (some ⟨p.go, 0, none⟩) s.ord.length p.co) := (bl.cell (p := ⟨p.b, 6, none⟩) h.o.lt).trans h.c6
    have d0 : a.eval (.tmp 44) = .pointer (some ⟨p.b, 6, none⟩) := haft ⟨2, .data⟩ (by simp [kmd3]) rfl
    exact wp_valueZ (v := .slice (some ⟨p.go, 0, none⟩) s.ord.length p.co) (w' := X) (by simp [execOp, kmd3, d0, ldLi q6]) (hKK _ _ r rfl)
  · obtain rfl : kmd4 = o := Option.some.inj ho
    refine wpOp_on ho (wanted_none rfl) ?_
    exact wp_valueZ (v := .string (sp wd)) (w' := X) (by simp [execOp, kmd4, fY4]) (hKK _ _ r rfl)
  · obtain rfl : kmd5 = o := Option.some.inj ho
    refine wpOp_on ho (wanted_none rfl) ?_
    refine wp_enterZ (run_call1 rfl (enters_of Try.func57 (by kernel_rfl) rfl) rfl) (symbol_any 0 X (by omega) (by omega)) ?_
    rintro e X' ⟨rfl, hb⟩
    exact ⟨_, rfl, hKK _ _ hb rfl⟩
  · obtain rfl : kmd6 = o := Option.some.inj ho
    refine wpOp_on ho (wanted_none rfl) ?_
    have d0 : a.eval (.tmp 46) = .string (sp wd) := haft ⟨4, .data⟩ (by simp [kmd6]) rfl
    have d1 : a.eval (.tmp 47) = .string (sp [(0 : Int)]) := haft ⟨5, .data⟩ (by simp [kmd6]) rfl
    exact wp_valueZ (w' := X) (run_addSp rfl d0 d1 (by omega) (by simp)) (hKK _ _ r rfl)
  · obtain rfl : kmd7 = o := Option.some.inj ho
    refine wpOp_on ho (wanted_none rfl) ?_
    exact wp_valueZ (v := .func (.func 58) #[] #[.pointer (some ⟨bx, 0, none⟩)]) (w' := X) (by simp [execOp, kmd7, fY2, run_mkF]) (hKK _ _ r rfl)
  · obtain rfl : kmd8 = o := Option.some.inj ho
    refine wpOp_on ho (wanted_none rfl) ?_
    have d0 : a.eval (.tmp 45) = .slice (some ⟨p.go, 0, none⟩) s.ord.length p.co := haft ⟨3, .data⟩ (by simp [kmd8]) rfl
    have d1 : a.eval (.tmp 48) = .string (sp (wd ++ [0])) := haft ⟨6, .data⟩ (by simp [kmd8]) rfl
    have d2 : a.eval (.tmp 49) = .func (.func 58) #[] #[.pointer (some ⟨bx, 0, none⟩)] := haft ⟨7, .data⟩ (by simp [kmd8]) rfl
    refine wp_enterZ (run_call3Z rfl (enters_of Try.func56 (by kernel_rfl) rfl) d0 d1 d2) (hbs X bl) ?_
    rintro e X' ⟨k, bb, rfl, g1, g2, g3, hb⟩
    exact ⟨_, rfl, hKK _ _ hb ⟨k, bb, rfl, g1, g2, g3⟩⟩
  · obtain rfl : kmd9 = o := Option.some.inj ho
    refine wpOp_on ho (wanted_none rfl) ?_
    obtain ⟨k, bb, d0, g⟩ := haft ⟨8, .data⟩ (by simp [kmd9]) rfl
    exact wp_valueZ (v := .tuple #[.int .i64 (k : Int), .bool bb]) (w' := X) (by simp [execOp, kmd9, show a.eval (.tmp 50) = _ from d0]) (hKK _ _ r ⟨k, bb, rfl, g⟩)
  · obtain rfl : kmd10 = o := Option.some.inj ho
    refine wpOp_on ho (wanted_none rfl) ?_
    obtain ⟨k, bb, d0, g⟩ := haft ⟨9, .data⟩ (by simp [kmd10]) rfl
    exact wp_valueZ (v := .int .i64 (k : Int)) (w' := X) (by simp [execOp, kmd10, show a.eval (.tmp 41) = _ from d0]; go_simp) (hKK _ _ r ⟨k, rfl, g⟩)
  · obtain rfl : kmd11 = o := Option.some.inj ho
    refine wpOp_on ho (wanted_none rfl) ?_
    obtain ⟨k, bb, d0, g⟩ := haft ⟨9, .data⟩ (by simp [kmd11]) rfl
    exact wp_valueZ (v := .bool bb) (w' := X) (by simp [execOp, kmd11, show a.eval (.tmp 41) = _ from d0]; go_simp) (hKK _ _ r ⟨bb, rfl⟩)
  · obtain rfl : kmd12 = o := Option.some.inj ho
    refine wpOp_on ho (wanted_none rfl) ?_
    obtain ⟨k, d0, g⟩ := haft ⟨10, .data⟩ (by simp [kmd12]) rfl
    exact wp_valueZ (v := .int .i64 (k : Int)) (w' := X) (by simp [execOp, kmd12, show a.eval (.tmp 51) = _ from d0]) (hKK _ _ r ⟨k, rfl, g⟩)
  · obtain rfl : kmd13 = o := Option.some.inj ho
    refine wpOp_on ho (wanted_none rfl) ?_
    obtain ⟨bb, d0⟩ := haft ⟨11, .data⟩ (by simp [kmd13]) rfl
    exact wp_valueZ (v := .bool bb) (w' := X) (by simp [execOp, kmd13, show a.eval (.tmp 52) = _ from d0]) (hKK _ _ r ⟨bb, rfl⟩)
set_option maxRecDepth 100000 in
set_option maxHeartbeats 8000000 in
theorem kmd_region {Q : Exit → Act → World → Prop} (W : World) (B : Nat) (p : Tl) (s : Ts) (bx : Nat) (wd : List Int) (ds : List Deferred) (t0 t1 t3 t5 t6 t7 t8 t9 t10 t11 t12 t13 t14 t15 t16 t17 t18 t19 t20 t21 t22 t23 t24 t25 t26 t27 t28 t29 t30 t31 t32 t33 t34 t35 t36 t37 t38 t39 t40 t41 t42 t43 t44 t45 t46 t47 t48 t49 t50 t51 t52 t53 t54 t55 t56 t57 t58 t59 t60 t61 t62 t63 t64 t65 t66 t67 t68 t69 t70 t71 t72 t73 t74 t75 t76 t77 t78 t79 t80 t81 t82 t83 t84 t85 t86 t87 t88 t89 t90 t91 t92 t93 t94 t95 t96 t97 t98 t99 t100 t101 t102 t103 t104 t105 t106 t107 t108 t109 t110 t111 t112 : Value)
    (h : To B W p s) (hbx : W.cell? ⟨bx, 0, none⟩ = some (.pointer (some ⟨p.b, 0, none⟩))) (hwd : wd.length ≤ 8000000)
    (hbs : ∀ X, Below W.heap.size W X → Calls Try.prog 56 #[.slice (some ⟨p.go, 0, none⟩) s.ord.length p.co, .string (sp (wd ++ [0])), .func (.func 58) #[] #[.pointer (some ⟨bx, 0, none⟩)]] X (BsPost s.ord.length (fun i => cmS (s.wd (s.ord.getD i 0)) (wd ++ [0])) X))
    (fin : ∀ X (u42 u43 u44 u45 u46 u47 u48 u49 u50 u41 u51 u52 u5 u6 : Value), Below W.heap.size W X → (∃ k : Nat, u5 = .int .i64 (k : Int) ∧ k ≤ s.ord.length ∧ (∀ i, i < k → cmS (s.wd (s.ord.getD i 0)) (wd ++ [0]) < 0) ∧ ∀ i, k ≤ i → i < s.ord.length → 0 ≤ cmS (s.wd (s.ord.getD i 0)) (wd ++ [0])) → Q .normal ⟨#[t0, t1, .pointer (some ⟨bx, 0, none⟩), t3, .string (sp wd), u5, u6, t7, t8, t9, t10, t11, t12, t13, t14, t15, t16, t17, t18, t19, t20, t21, t22, t23, t24, t25, t26, t27, t28, t29, t30, t31, t32, t33, t34, t35, t36, t37, t38, t39, t40, u41, u42, u43, u44, u45, u46, u47, u48, u49, u50, u51, u52, t53, t54, t55, t56, t57, t58, t59, t60, t61, t62, t63, t64, t65, t66, t67, t68, t69, t70, t71, t72, t73, t74, t75, t76, t77, t78, t79, t80, t81, t82, t83, t84, t85, t86, t87, t88, t89, t90, t91, t92, t93, t94, t95, t96, t97, t98, t99, t100, t101, t102, t103, t104, t105, t106, t107, t108, t109, t110, t111, t112], ds⟩ X) :
    (Code.region 4 kmdOps true).wp Try.prog Q ⟨#[t0, t1, .pointer (some ⟨bx, 0, none⟩), t3, .string (sp wd), t5, t6, t7, t8, t9, t10, t11, t12, t13, t14, t15, t16, t17, t18, t19, t20, t21, t22, t23, t24, t25, t26, t27, t28, t29, t30, t31, t32, t33, t34, t35, t36, t37, t38, t39, t40, t41, t42, t43, t44, t45, t46, t47, t48, t49, t50, t51, t52, t53, t54, t55, t56, t57, t58, t59, t60, t61, t62, t63, t64, t65, t66, t67, t68, t69, t70, t71, t72, t73, t74, t75, t76, t77, t78, t79, t80, t81, t82, t83, t84, t85, t86, t87, t88, t89, t90, t91, t92, t93, t94, t95, t96, t97, t98, t99, t100, t101, t102, t103, t104, t105, t106, t107, t108, t109, t110, t111, t112], ds⟩ W := by
  obtain ⟨a0, ha0⟩ : ∃ a0 : Act, a0 = ⟨#[t0, t1, .pointer (some ⟨bx, 0, none⟩), t3, .string (sp wd), t5, t6, t7, t8, t9, t10, t11, t12, t13, t14, t15, t16, t17, t18, t19, t20, t21, t22, t23, t24, t25, t26, t27, t28, t29, t30, t31, t32, t33, t34, t35, t36, t37, t38, t39, t40, t41, t42, t43, t44, t45, t46, t47, t48, t49, t50, t51, t52, t53, t54, t55, t56, t57, t58, t59, t60, t61, t62, t63, t64, t65, t66, t67, t68, t69, t70, t71, t72, t73, t74, t75, t76, t77, t78, t79, t80, t81, t82, t83, t84, t85, t86, t87, t88, t89, t90, t91, t92, t93, t94, t95, t96, t97, t98, t99, t100, t101, t102, t103, t104, t105, t106, t107, t108, t109, t110, t111, t112], ds⟩ := ⟨_, rfl⟩
  have hs0 : a0.tmps.size = 113 := by rw [ha0]; rfl
  have hd0 : a0.defers = ds := by rw [ha0]
  have gY0 : a0.eval (.tmp 0) = t0 := by rw [ha0]; rfl
  have gY1 : a0.eval (.tmp 1) = t1 := by rw [ha0]; rfl
  have gY2 : a0.eval (.tmp 2) = .pointer (some ⟨bx, 0, none⟩) := by rw [ha0]; rfl
  have gY3 : a0.eval (.tmp 3) = t3 := by rw [ha0]; rfl
  have gY4 : a0.eval (.tmp 4) = .string (sp wd) := by rw [ha0]; rfl
  have gY7 : a0.eval (.tmp 7) = t7 := by rw [ha0]; rfl
  have gY8 : a0.eval (.tmp 8) = t8 := by rw [ha0]; rfl
  have gY9 : a0.eval (.tmp 9) = t9 := by rw [ha0]; rfl
  have gY10 : a0.eval (.tmp 10) = t10 := by rw [ha0]; rfl
  have gY11 : a0.eval (.tmp 11) = t11 := by rw [ha0]; rfl
  have gY12 : a0.eval (.tmp 12) = t12 := by rw [ha0]; rfl
  have gY13 : a0.eval (.tmp 13) = t13 := by rw [ha0]; rfl
  have gY14 : a0.eval (.tmp 14) = t14 := by rw [ha0]; rfl
  have gY15 : a0.eval (.tmp 15) = t15 := by rw [ha0]; rfl
  have gY16 : a0.eval (.tmp 16) = t16 := by rw [ha0]; rfl
  have gY17 : a0.eval (.tmp 17) = t17 := by rw [ha0]; rfl
  have gY18 : a0.eval (.tmp 18) = t18 := by rw [ha0]; rfl
  have gY19 : a0.eval (.tmp 19) = t19 := by rw [ha0]; rfl
  have gY20 : a0.eval (.tmp 20) = t20 := by rw [ha0]; rfl
  have gY21 : a0.eval (.tmp 21) = t21 := by rw [ha0]; rfl
  have gY22 : a0.eval (.tmp 22) = t22 := by rw [ha0]; rfl
  have gY23 : a0.eval (.tmp 23) = t23 := by rw [ha0]; rfl
  have gY24 : a0.eval (.tmp 24) = t24 := by rw [ha0]; rfl
  have gY25 : a0.eval (.tmp 25) = t25 := by rw [ha0]; rfl
  have gY26 : a0.eval (.tmp 26) = t26 := by rw [ha0]; rfl
  have gY27 : a0.eval (.tmp 27) = t27 := by rw [ha0]; rfl
  have gY28 : a0.eval (.tmp 28) = t28 := by rw [ha0]; rfl
  have gY29 : a0.eval (.tmp 29) = t29 := by rw [ha0]; rfl
  have gY30 : a0.eval (.tmp 30) = t30 := by rw [ha0]; rfl
  have gY31 : a0.eval (.tmp 31) = t31 := by rw [ha0]; rfl
  have gY32 : a0.eval (.tmp 32) = t32 := by rw [ha0]; rfl
  have gY33 : a0.eval (.tmp 33) = t33 := by rw [ha0]; rfl
  have gY34 : a0.eval (.tmp 34) = t34 := by rw [ha0]; rfl
  have gY35 : a0.eval (.tmp 35) = t35 := by rw [ha0]; rfl
  have gY36 : a0.eval (.tmp 36) = t36 := by rw [ha0]; rfl
  have gY37 : a0.eval (.tmp 37) = t37 := by rw [ha0]; rfl
  have gY38 : a0.eval (.tmp 38) = t38 := by rw [ha0]; rfl
  have gY39 : a0.eval (.tmp 39) = t39 := by rw [ha0]; rfl
  have gY40 : a0.eval (.tmp 40) = t40 := by rw [ha0]; rfl
  have gY53 : a0.eval (.tmp 53) = t53 := by rw [ha0]; rfl
  have gY54 : a0.eval (.tmp 54) = t54 := by rw [ha0]; rfl
  have gY55 : a0.eval (.tmp 55) = t55 := by rw [ha0]; rfl
  have gY56 : a0.eval (.tmp 56) = t56 := by rw [ha0]; rfl
  have gY57 : a0.eval (.tmp 57) = t57 := by rw [ha0]; rfl
  have gY58 : a0.eval (.tmp 58) = t58 := by rw [ha0]; rfl
  have gY59 : a0.eval (.tmp 59) = t59 := by rw [ha0]; rfl
  have gY60 : a0.eval (.tmp 60) = t60 := by rw [ha0]; rfl
  have gY61 : a0.eval (.tmp 61) = t61 := by rw [ha0]; rfl
  have gY62 : a0.eval (.tmp 62) = t62 := by rw [ha0]; rfl
  have gY63 : a0.eval (.tmp 63) = t63 := by rw [ha0]; rfl
  have gY64 : a0.eval (.tmp 64) = t64 := by rw [ha0]; rfl
  have gY65 : a0.eval (.tmp 65) = t65 := by rw [ha0]; rfl
  have gY66 : a0.eval (.tmp 66) = t66 := by rw [ha0]; rfl
  have gY67 : a0.eval (.tmp 67) = t67 := by rw [ha0]; rfl
  have gY68 : a0.eval (.tmp 68) = t68 := by rw [ha0]; rfl
  have gY69 : a0.eval (.tmp 69) = t69 := by rw [ha0]; rfl
  have gY70 : a0.eval (.tmp 70) = t70 := by rw [ha0]; rfl
  have gY71 : a0.eval (.tmp 71) = t71 := by rw [ha0]; rfl
  have gY72 : a0.eval (.tmp 72) = t72 := by rw [ha0]; rfl
  have gY73 : a0.eval (.tmp 73) = t73 := by rw [ha0]; rfl
  have gY74 : a0.eval (.tmp 74) = t74 := by rw [ha0]; rfl
  have gY75 : a0.eval (.tmp 75) = t75 := by rw [ha0]; rfl
  have gY76 : a0.eval (.tmp 76) = t76 := by rw [ha0]; rfl
  have gY77 : a0.eval (.tmp 77) = t77 := by rw [ha0]; rfl
  have gY78 : a0.eval (.tmp 78) = t78 := by rw [ha0]; rfl
  have gY79 : a0.eval (.tmp 79) = t79 := by rw [ha0]; rfl
  have gY80 : a0.eval (.tmp 80) = t80 := by rw [ha0]; rfl
  have gY81 : a0.eval (.tmp 81) = t81 := by rw [ha0]; rfl
  have gY82 : a0.eval (.tmp 82) = t82 := by rw [ha0]; rfl
  have gY83 : a0.eval (.tmp 83) = t83 := by rw [ha0]; rfl
  have gY84 : a0.eval (.tmp 84) = t84 := by rw [ha0]; rfl
  have gY85 : a0.eval (.tmp 85) = t85 := by rw [ha0]; rfl
  have gY86 : a0.eval (.tmp 86) = t86 := by rw [ha0]; rfl
  have gY87 : a0.eval (.tmp 87) = t87 := by rw [ha0]; rfl
  have gY88 : a0.eval (.tmp 88) = t88 := by rw [ha0]; rfl
  have gY89 : a0.eval (.tmp 89) = t89 := by rw [ha0]; rfl
  have gY90 : a0.eval (.tmp 90) = t90 := by rw [ha0]; rfl
  have gY91 : a0.eval (.tmp 91) = t91 := by rw [ha0]; rfl
  have gY92 : a0.eval (.tmp 92) = t92 := by rw [ha0]; rfl
  have gY93 : a0.eval (.tmp 93) = t93 := by rw [ha0]; rfl
  have gY94 : a0.eval (.tmp 94) = t94 := by rw [ha0]; rfl
  have gY95 : a0.eval (.tmp 95) = t95 := by rw [ha0]; rfl
  have gY96 : a0.eval (.tmp 96) = t96 := by rw [ha0]; rfl
  have gY97 : a0.eval (.tmp 97) = t97 := by rw [ha0]; rfl
  have gY98 : a0.eval (.tmp 98) = t98 := by rw [ha0]; rfl
  have gY99 : a0.eval (.tmp 99) = t99 := by rw [ha0]; rfl
  have gY100 : a0.eval (.tmp 100) = t100 := by rw [ha0]; rfl
  have gY101 : a0.eval (.tmp 101) = t101 := by rw [ha0]; rfl
  have gY102 : a0.eval (.tmp 102) = t102 := by rw [ha0]; rfl
  have gY103 : a0.eval (.tmp 103) = t103 := by rw [ha0]; rfl
  have gY104 : a0.eval (.tmp 104) = t104 := by rw [ha0]; rfl
  have gY105 : a0.eval (.tmp 105) = t105 := by rw [ha0]; rfl
  have gY106 : a0.eval (.tmp 106) = t106 := by rw [ha0]; rfl
  have gY107 : a0.eval (.tmp 107) = t107 := by rw [ha0]; rfl
  have gY108 : a0.eval (.tmp 108) = t108 := by rw [ha0]; rfl
  have gY109 : a0.eval (.tmp 109) = t109 := by rw [ha0]; rfl
  have gY110 : a0.eval (.tmp 110) = t110 := by rw [ha0]; rfl
  have gY111 : a0.eval (.tmp 111) = t111 := by rw [ha0]; rfl
  have gY112 : a0.eval (.tmp 112) = t112 := by rw [ha0]; rfl
  rw [← ha0]
  refine kmd_core W B p s bx wd a0 hs0 gY2 gY4 h hbx hwd hbs ?_
  clear ha0
  intro a X E
  have hq := fin X (a.eval (.tmp 42)) (a.eval (.tmp 43)) (a.eval (.tmp 44)) (a.eval (.tmp 45)) (a.eval (.tmp 46)) (a.eval (.tmp 47)) (a.eval (.tmp 48)) (a.eval (.tmp 49)) (a.eval (.tmp 50)) (a.eval (.tmp 41)) (a.eval (.tmp 51)) (a.eval (.tmp 52)) (a.eval (.tmp 5)) (a.eval (.tmp 6)) E.bl (E.vs 12 (by decide) trivial)
  have ea : a = ⟨#[a.eval (.tmp 0), a.eval (.tmp 1), a.eval (.tmp 2), a.eval (.tmp 3), a.eval (.tmp 4), a.eval (.tmp 5), a.eval (.tmp 6), a.eval (.tmp 7), a.eval (.tmp 8), a.eval (.tmp 9), a.eval (.tmp 10), a.eval (.tmp 11), a.eval (.tmp 12), a.eval (.tmp 13), a.eval (.tmp 14), a.eval (.tmp 15), a.eval (.tmp 16), a.eval (.tmp 17), a.eval (.tmp 18), a.eval (.tmp 19), a.eval (.tmp 20), a.eval (.tmp 21), a.eval (.tmp 22), a.eval (.tmp 23), a.eval (.tmp 24), a.eval (.tmp 25), a.eval (.tmp 26), a.eval (.tmp 27), a.eval (.tmp 28), a.eval (.tmp 29), a.eval (.tmp 30), a.eval (.tmp 31), a.eval (.tmp 32), a.eval (.tmp 33), a.eval (.tmp 34), a.eval (.tmp 35), a.eval (.tmp 36), a.eval (.tmp 37), a.eval (.tmp 38), a.eval (.tmp 39), a.eval (.tmp 40), a.eval (.tmp 41), a.eval (.tmp 42), a.eval (.tmp 43), a.eval (.tmp 44), a.eval (.tmp 45), a.eval (.tmp 46), a.eval (.tmp 47), a.eval (.tmp 48), a.eval (.tmp 49), a.eval (.tmp 50), a.eval (.tmp 51), a.eval (.tmp 52), a.eval (.tmp 53), a.eval (.tmp 54), a.eval (.tmp 55), a.eval (.tmp 56), a.eval (.tmp 57), a.eval (.tmp 58), a.eval (.tmp 59), a.eval (.tmp 60), a.eval (.tmp 61), a.eval (.tmp 62), a.eval (.tmp 63), a.eval (.tmp 64), a.eval (.tmp 65), a.eval (.tmp 66), a.eval (.tmp 67), a.eval (.tmp 68), a.eval (.tmp 69), a.eval (.tmp 70), a.eval (.tmp 71), a.eval (.tmp 72), a.eval (.tmp 73), a.eval (.tmp 74), a.eval (.tmp 75), a.eval (.tmp 76), a.eval (.tmp 77), a.eval (.tmp 78), a.eval (.tmp 79), a.eval (.tmp 80), a.eval (.tmp 81), a.eval (.tmp 82), a.eval (.tmp 83), a.eval (.tmp 84), a.eval (.tmp 85), a.eval (.tmp 86), a.eval (.tmp 87), a.eval (.tmp 88), a.eval (.tmp 89), a.eval (.tmp 90), a.eval (.tmp 91), a.eval (.tmp 92), a.eval (.tmp 93), a.eval (.tmp 94), a.eval (.tmp 95), a.eval (.tmp 96), a.eval (.tmp 97), a.eval (.tmp 98), a.eval (.tmp 99), a.eval (.tmp 100), a.eval (.tmp 101), a.eval (.tmp 102), a.eval (.tmp 103), a.eval (.tmp 104), a.eval (.tmp 105), a.eval (.tmp 106), a.eval (.tmp 107), a.eval (.tmp 108), a.eval (.tmp 109), a.eval (.tmp 110), a.eval (.tmp 111), a.eval (.tmp 112)], a.defers⟩ := act_eta a 113 (E.sz.trans hs0)
  rw [ea, E.df, hd0]
  have kY0 : a.eval (.tmp 0) = t0 := (E.ag 0 (by decide)).trans gY0
  have kY1 : a.eval (.tmp 1) = t1 := (E.ag 1 (by decide)).trans gY1
  have kY2 : a.eval (.tmp 2) = .pointer (some ⟨bx, 0, none⟩) := (E.ag 2 (by decide)).trans gY2
  have kY3 : a.eval (.tmp 3) = t3 := (E.ag 3 (by decide)).trans gY3
  have kY4 : a.eval (.tmp 4) = .string (sp wd) := (E.ag 4 (by decide)).trans gY4
  have kY7 : a.eval (.tmp 7) = t7 := (E.ag 7 (by decide)).trans gY7
  have kY8 : a.eval (.tmp 8) = t8 := (E.ag 8 (by decide)).trans gY8
  have kY9 : a.eval (.tmp 9) = t9 := (E.ag 9 (by decide)).trans gY9
  have kY10 : a.eval (.tmp 10) = t10 := (E.ag 10 (by decide)).trans gY10
  have kY11 : a.eval (.tmp 11) = t11 := (E.ag 11 (by decide)).trans gY11
  have kY12 : a.eval (.tmp 12) = t12 := (E.ag 12 (by decide)).trans gY12
  have kY13 : a.eval (.tmp 13) = t13 := (E.ag 13 (by decide)).trans gY13
  have kY14 : a.eval (.tmp 14) = t14 := (E.ag 14 (by decide)).trans gY14
  have kY15 : a.eval (.tmp 15) = t15 := (E.ag 15 (by decide)).trans gY15
  have kY16 : a.eval (.tmp 16) = t16 := (E.ag 16 (by decide)).trans gY16
  have kY17 : a.eval (.tmp 17) = t17 := (E.ag 17 (by decide)).trans gY17
  have kY18 : a.eval (.tmp 18) = t18 := (E.ag 18 (by decide)).trans gY18
  have kY19 : a.eval (.tmp 19) = t19 := (E.ag 19 (by decide)).trans gY19
  have kY20 : a.eval (.tmp 20) = t20 := (E.ag 20 (by decide)).trans gY20
  have kY21 : a.eval (.tmp 21) = t21 := (E.ag 21 (by decide)).trans gY21
  have kY22 : a.eval (.tmp 22) = t22 := (E.ag 22 (by decide)).trans gY22
  have kY23 : a.eval (.tmp 23) = t23 := (E.ag 23 (by decide)).trans gY23
  have kY24 : a.eval (.tmp 24) = t24 := (E.ag 24 (by decide)).trans gY24
  have kY25 : a.eval (.tmp 25) = t25 := (E.ag 25 (by decide)).trans gY25
  have kY26 : a.eval (.tmp 26) = t26 := (E.ag 26 (by decide)).trans gY26
  have kY27 : a.eval (.tmp 27) = t27 := (E.ag 27 (by decide)).trans gY27
  have kY28 : a.eval (.tmp 28) = t28 := (E.ag 28 (by decide)).trans gY28
  have kY29 : a.eval (.tmp 29) = t29 := (E.ag 29 (by decide)).trans gY29
  have kY30 : a.eval (.tmp 30) = t30 := (E.ag 30 (by decide)).trans gY30
  have kY31 : a.eval (.tmp 31) = t31 := (E.ag 31 (by decide)).trans gY31
  have kY32 : a.eval (.tmp 32) = t32 := (E.ag 32 (by decide)).trans gY32
  have kY33 : a.eval (.tmp 33) = t33 := (E.ag 33 (by decide)).trans gY33
  have kY34 : a.eval (.tmp 34) = t34 := (E.ag 34 (by decide)).trans gY34
  have kY35 : a.eval (.tmp 35) = t35 := (E.ag 35 (by decide)).trans gY35
  have kY36 : a.eval (.tmp 36) = t36 := (E.ag 36 (by decide)).trans gY36
  have kY37 : a.eval (.tmp 37) = t37 := (E.ag 37 (by decide)).trans gY37
  have kY38 : a.eval (.tmp 38) = t38 := (E.ag 38 (by decide)).trans gY38
  have kY39 : a.eval (.tmp 39) = t39 := (E.ag 39 (by decide)).trans gY39
  have kY40 : a.eval (.tmp 40) = t40 := (E.ag 40 (by decide)).trans gY40
  have kY53 : a.eval (.tmp 53) = t53 := (E.ag 53 (by decide)).trans gY53
  have kY54 : a.eval (.tmp 54) = t54 := (E.ag 54 (by decide)).trans gY54
  have kY55 : a.eval (.tmp 55) = t55 := (E.ag 55 (by decide)).trans gY55
  have kY56 : a.eval (.tmp 56) = t56 := (E.ag 56 (by decide)).trans gY56
  have kY57 : a.eval (.tmp 57) = t57 := (E.ag 57 (by decide)).trans gY57
  have kY58 : a.eval (.tmp 58) = t58 := (E.ag 58 (by decide)).trans gY58
  have kY59 : a.eval (.tmp 59) = t59 := (E.ag 59 (by decide)).trans gY59
  have kY60 : a.eval (.tmp 60) = t60 := (E.ag 60 (by decide)).trans gY60
  have kY61 : a.eval (.tmp 61) = t61 := (E.ag 61 (by decide)).trans gY61
  have kY62 : a.eval (.tmp 62) = t62 := (E.ag 62 (by decide)).trans gY62
  have kY63 : a.eval (.tmp 63) = t63 := (E.ag 63 (by decide)).trans gY63
  have kY64 : a.eval (.tmp 64) = t64 := (E.ag 64 (by decide)).trans gY64
  have kY65 : a.eval (.tmp 65) = t65 := (E.ag 65 (by decide)).trans gY65
  have kY66 : a.eval (.tmp 66) = t66 := (E.ag 66 (by decide)).trans gY66
  have kY67 : a.eval (.tmp 67) = t67 := (E.ag 67 (by decide)).trans gY67
  have kY68 : a.eval (.tmp 68) = t68 := (E.ag 68 (by decide)).trans gY68
  have kY69 : a.eval (.tmp 69) = t69 := (E.ag 69 (by decide)).trans gY69
  have kY70 : a.eval (.tmp 70) = t70 := (E.ag 70 (by decide)).trans gY70
  have kY71 : a.eval (.tmp 71) = t71 := (E.ag 71 (by decide)).trans gY71
  have kY72 : a.eval (.tmp 72) = t72 := (E.ag 72 (by decide)).trans gY72
  have kY73 : a.eval (.tmp 73) = t73 := (E.ag 73 (by decide)).trans gY73
  have kY74 : a.eval (.tmp 74) = t74 := (E.ag 74 (by decide)).trans gY74
  have kY75 : a.eval (.tmp 75) = t75 := (E.ag 75 (by decide)).trans gY75
  have kY76 : a.eval (.tmp 76) = t76 := (E.ag 76 (by decide)).trans gY76
  have kY77 : a.eval (.tmp 77) = t77 := (E.ag 77 (by decide)).trans gY77
  have kY78 : a.eval (.tmp 78) = t78 := (E.ag 78 (by decide)).trans gY78
  have kY79 : a.eval (.tmp 79) = t79 := (E.ag 79 (by decide)).trans gY79
  have kY80 : a.eval (.tmp 80) = t80 := (E.ag 80 (by decide)).trans gY80
  have kY81 : a.eval (.tmp 81) = t81 := (E.ag 81 (by decide)).trans gY81
  have kY82 : a.eval (.tmp 82) = t82 := (E.ag 82 (by decide)).trans gY82
  have kY83 : a.eval (.tmp 83) = t83 := (E.ag 83 (by decide)).trans gY83
  have kY84 : a.eval (.tmp 84) = t84 := (E.ag 84 (by decide)).trans gY84
  have kY85 : a.eval (.tmp 85) = t85 := (E.ag 85 (by decide)).trans gY85
  have kY86 : a.eval (.tmp 86) = t86 := (E.ag 86 (by decide)).trans gY86
  have kY87 : a.eval (.tmp 87) = t87 := (E.ag 87 (by decide)).trans gY87
  have kY88 : a.eval (.tmp 88) = t88 := (E.ag 88 (by decide)).trans gY88
  have kY89 : a.eval (.tmp 89) = t89 := (E.ag 89 (by decide)).trans gY89
  have kY90 : a.eval (.tmp 90) = t90 := (E.ag 90 (by decide)).trans gY90
  have kY91 : a.eval (.tmp 91) = t91 := (E.ag 91 (by decide)).trans gY91
  have kY92 : a.eval (.tmp 92) = t92 := (E.ag 92 (by decide)).trans gY92
  have kY93 : a.eval (.tmp 93) = t93 := (E.ag 93 (by decide)).trans gY93
  have kY94 : a.eval (.tmp 94) = t94 := (E.ag 94 (by decide)).trans gY94
  have kY95 : a.eval (.tmp 95) = t95 := (E.ag 95 (by decide)).trans gY95
  have kY96 : a.eval (.tmp 96) = t96 := (E.ag 96 (by decide)).trans gY96
  have kY97 : a.eval (.tmp 97) = t97 := (E.ag 97 (by decide)).trans gY97
  have kY98 : a.eval (.tmp 98) = t98 := (E.ag 98 (by decide)).trans gY98
  have kY99 : a.eval (.tmp 99) = t99 := (E.ag 99 (by decide)).trans gY99
  have kY100 : a.eval (.tmp 100) = t100 := (E.ag 100 (by decide)).trans gY100
  have kY101 : a.eval (.tmp 101) = t101 := (E.ag 101 (by decide)).trans gY101
  have kY102 : a.eval (.tmp 102) = t102 := (E.ag 102 (by decide)).trans gY102
  have kY103 : a.eval (.tmp 103) = t103 := (E.ag 103 (by decide)).trans gY103
  have kY104 : a.eval (.tmp 104) = t104 := (E.ag 104 (by decide)).trans gY104
  have kY105 : a.eval (.tmp 105) = t105 := (E.ag 105 (by decide)).trans gY105
  have kY106 : a.eval (.tmp 106) = t106 := (E.ag 106 (by decide)).trans gY106
  have kY107 : a.eval (.tmp 107) = t107 := (E.ag 107 (by decide)).trans gY107
  have kY108 : a.eval (.tmp 108) = t108 := (E.ag 108 (by decide)).trans gY108
  have kY109 : a.eval (.tmp 109) = t109 := (E.ag 109 (by decide)).trans gY109
  have kY110 : a.eval (.tmp 110) = t110 := (E.ag 110 (by decide)).trans gY110
  have kY111 : a.eval (.tmp 111) = t111 := (E.ag 111 (by decide)).trans gY111
  have kY112 : a.eval (.tmp 112) = t112 := (E.ag 112 (by decide)).trans gY112
  rw [kY0, kY1, kY2, kY3, kY4, kY7, kY8, kY9, kY10, kY11, kY12, kY13, kY14, kY15, kY16, kY17, kY18, kY19, kY20, kY21, kY22, kY23, kY24, kY25, kY26, kY27, kY28, kY29, kY30, kY31, kY32, kY33, kY34, kY35, kY36, kY37, kY38, kY39, kY40, kY53, kY54, kY55, kY56, kY57, kY58, kY59, kY60, kY61, kY62, kY63, kY64, kY65, kY66, kY67, kY68, kY69, kY70, kY71, kY72, kY73, kY74, kY75, kY76, kY77, kY78, kY79, kY80, kY81, kY82, kY83, kY84, kY85, kY86, kY87, kY88, kY89, kY90, kY91, kY92, kY93, kY94, kY95, kY96, kY97, kY98, kY99, kY100, kY101, kY102, kY103, kY104, kY105, kY106, kY107, kY108, kY109, kY110, kY111, kY112]
  exact hq

end Go.Proofs.Ytepmdnggiajkbaa

/-
  The program's table: an edge becomes a row.
-/
namespace Go.Proofs.Ytepmdnggiajkbaa
set_option linter.unusedVariables false
open Go.RowKit

theorem Gw.mono {p q : Tl} {N M : Nat} (h : Gw p q N) (hM : M ≤ N) : Gw p q M := fun k hk => (h k hk).imp id fun e => Nat.le_trans hM e
theorem Gw.bx {p q : Tl} {N : Nat} {a w w' : World} (hg : Gw p q N) (h : Bx p.has a w) (g : Bx q.has w w') (hN : a.heap.size ≤ N) : Bx p.has a w' := h.trans g fun j hj hq => (hg j hq).elim id fun e => by omega
/-- The edges of a new row. -/
def edL (wd : List Int) (X : Nat) : List Ln := (List.range X).map fun x : Nat => ⟨wd ++ [(x : Int)], 0, 0, 0⟩
theorem edL_succ (wd : List Int) (X : Nat) : edL wd (X + 1) = edL wd X ++ [⟨wd ++ [(X : Int)], 0, 0, 0⟩] := by unfold edL; rw [List.range_succ, List.map_append]; rfl
def edP (L X : Nat) : List Nat := (List.range X).map fun x => L + x
theorem edP_succ (L X : Nat) : edP L (X + 1) = edP L X ++ [L + X] := by unfold edP; rw [List.range_succ, List.map_append]; rfl
theorem edP_len (L X : Nat) : (edP L X).length = X := by simp [edP]
theorem edL_len (wd : List Int) (X : Nat) : (edL wd X).length = X := by simp [edL]
/-- On the way: a row that has its first edges; the order; what is known of the first columns. -/
def Ts.mk1 (s : Ts) (P X : Nat) : Ts := { s.sed P s.ls.length with rows := s.rows ++ [P], ls := (s.sed P s.ls.length).ls ++ edL (s.wd P) X }
def Ts.mk2 (s : Ts) (P a : Nat) : Ts := { s.mk1 P s.K with ord := s.ord.take a ++ edP s.ls.length s.K ++ s.ord.drop a }
def Ts.mk3 (s : Ts) (P a C : Nat) : Ts := { s.mk2 P a with kn := (s.kn.take C).map (fun n => min n a) ++ s.kn.drop C }
def Ts.mkR (s : Ts) (P a : Nat) : Ts := { s.mk2 P a with kn := s.kn.map fun n => min n a }
theorem Ts.mk1_len (s : Ts) (P X : Nat) : (s.mk1 P X).ls.length = s.ls.length + X := by simp [Ts.mk1, Ts.sed, edL_len]
theorem Ts.mk1_succ (s : Ts) (P X : Nat) : ({ s.mk1 P X with ls := (s.mk1 P X).ls ++ [⟨s.wd P ++ [(X : Int)], 0, 0, 0⟩] } : Ts) = s.mk1 P (X + 1) := by
  unfold Ts.mk1; rw [edL_succ, List.append_assoc]
theorem Ts.mk3_len (s : Ts) (P a C : Nat) : (s.mk3 P a C).kn.length = s.kn.length := by simp [Ts.mk3]; omega
theorem Ts.mk3_end (s : Ts) (P a : Nat) : s.mk3 P a s.kn.length = s.mkR P a := by simp [Ts.mk3, Ts.mkR]
theorem Ts.mk3_at (s : Ts) (P a : Nat) {C : Nat} (h : C < s.kn.length) : (s.mk3 P a C).kn.getD C 0 = s.kn.getD C 0 := by
  show ((s.kn.take C).map (fun n => min n a) ++ s.kn.drop C).getD C 0 = _
  rw [List.getD_eq_getElem?_getD, List.getElem?_append_right (by simp; omega)]
  simp [Nat.min_eq_left (Nat.le_of_lt h)]
theorem Ts.mk3_set (s : Ts) (P a : Nat) {C : Nat} (h : C < s.kn.length) : ({ s.mk3 P a C with kn := (s.mk3 P a C).kn.set C (min (s.kn.getD C 0) a) } : Ts) = s.mk3 P a (C + 1) := by
  have e : ((s.kn.take C).map (fun n => min n a) ++ s.kn.drop C).set C (min (s.kn.getD C 0) a) = (s.kn.take (C + 1)).map (fun n => min n a) ++ s.kn.drop (C + 1) := by
    have h1 : ((s.kn.take C).map fun n => min n a).length = C := by simp; omega
    rw [List.set_append, if_neg (by omega), h1, Nat.sub_self, List.drop_eq_getElem_cons h, List.set_cons_zero, List.take_succ_eq_append_getElem h, List.map_append, List.getD_eq_getElem?_getD, List.getElem?_eq_getElem h, List.append_assoc]
    rfl
  show ({ s.mk2 P a with kn := ((s.kn.take C).map (fun n => min n a) ++ s.kn.drop C).set C (min (s.kn.getD C 0) a) } : Ts) = _
  rw [e]; rfl
theorem Ts.sed_wd (s : Ts) (P e i : Nat) : (s.sed P e).wd i = s.wd i := by
  unfold Ts.wd Ts.ln Ts.sed
  by_cases hP : P < s.ls.length
  · rw [ln_set hP]
    by_cases c : i = P
    · subst c; rw [if_pos rfl]; rfl
    · rw [if_neg c]
  · rw [List.set_eq_of_length_le (by omega)]
/-- Where the new edges stand in the order. -/
def MkA (s : Ts) (P a : Nat) : Prop := a ≤ s.ord.length ∧ (∀ i, i < a → cmS (s.wd (s.ord.getD i 0)) (s.wd P ++ [0]) < 0) ∧ ∀ i, a ≤ i → i < s.ord.length → 0 ≤ cmS (s.wd (s.ord.getD i 0)) (s.wd P ++ [0])
/-- What makeRow leaves. -/
def MkP (B : Nat) (p : Tl) (s : Ts) (P : Nat) (w : World) (e : Ending) (w' : World) : Prop :=
  ∃ p' a, e = .returned (.tuple #[]) ∧ To B w' p' (s.mkR P a) ∧ Bx p.has w w' ∧ Gw p p' w.heap.size ∧ p'.b = p.b ∧ MkA s P a
section
variable {B : Nat} {w w' : World} {p : Tl} {s : Ts}
set_option maxRecDepth 100000 in
set_option maxHeartbeats 16000000 in
theorem makeRow_any (h : To B w p s) (V : Vi s) (hB : B ≤ w.heap.size) {P : Nat} (hP : P < s.ls.length) (hr : s.rows.length < 1024) :
    Calls Try.prog 32 #[.pointer (some ⟨p.b, 0, none⟩), .int .i64 (P : Int)] w (MkP B p s P w) := by
  have hb0 := ballo w (.cells #[.pointer (some ⟨p.b, 0, none⟩)] 23)
  have hA := h.below hb0
  have nbx : ¬ p.has w.heap.size := fun q => by have := (h.hlt q).2; omega
  have c4 := hA.c4
  obtain ⟨l0, -⟩ := hA.lc hP
  have hwd : (s.ln P).wd = s.wd P := rfl
  rw [hwd] at l0
  have hP' : (P : Int) < (s.ls.length : Int) := by omega
  have hlen := hA.lnc
  have hl2 := V.len2
  have hk1 := V.k1
  have hk2 := V.k2
  have HA := hide hA
  have HV := hide V
  have hwl := V.wl1 hP
  have hkl : s.kn.length ≤ 1024 := by rw [V.kl]; exact V.cl
  have HB0 := hide (Bx.of (X := p.has) hb0)
  have hbA : (w.alloc (.cells #[.pointer (some ⟨p.b, 0, none⟩)] 23)).cell? ⟨w.heap.size, 0, none⟩ = some (.pointer (some ⟨p.b, 0, none⟩)) := by simp
  have HBA := hide hbA
  have HL0 := hide fun (k : Nat) (hk : p.has k) => (h.hlt hk).2
  clear h V hA hb0 hwd hbA
  go_enter Try.func32, Try.ntmps32
  go_wp2
  refine kma_region _ B p s w.heap.size P _ _ _ _ _ _ _ _ _ _ _ _ _ _ _ _ _ _ _ _ _ _ _ _ _ _ _ _ _ _ _ _ _ _ _ _ _ _ _ _ _ _ _ _ _ _ _ _ _ _ _ _ _ _ _ _ _ _ _ _ _ _ _ _ _ _ _ _ _ _ _ _ _ _ _ _ _ _ _ _ _ _ _ _ _ _ _ _ _ _ _ _ _ _ _ _ _ _ _ _ _ _ _ _ _ _ _ _ _ _ _ _ (unhide HA) (unhide HBA) nbx hP ?_
  rintro Z x0 x1 x2 x3 x4 x5 x6 x7 x8 x9 x10 x11 ⟨hT1, hX1⟩
  have HX1 := hide (Bx.trans (unhide HB0) hX1 (fun _ _ h => h))
  have hb1 := hX1.cell (p := ⟨w.heap.size, 0, none⟩) (unhide HBA) nbx
  have hz1 := (unhide HX1).size
  have hz1' : w.heap.size + 1 ≤ Z.heap.size := by have := hX1.size; simpa using this
  clear c4 l0 hX1
  go_wp2
  refine kmb_region _ Z.heap.size B p (s.sed P s.ls.length) w.heap.size P _ _ _ _ _ _ _ _ _ _ _ _ _ _ _ _ _ _ _ _ _ _ _ _ _ _ _ _ _ _ _ _ _ _ _ _ _ _ _ _ _ _ _ _ _ _ _ _ _ _ _ _ _ _ _ _ _ _ _ _ _ _ _ _ _ _ _ _ _ _ _ _ _ _ _ _ _ _ _ _ _ _ _ _ _ _ _ _ _ _ _ _ _ _ _ _ _ _ _ _ _ _ _ _ _ _ _ _ _ _ _ _ rfl hT1 hb1 nbx (by show s.rows.length ≤ _; omega) (by omega) ?_
  rintro Z2 x0 x1 x2 x3 x4 x5 x6 x7 x8 x9 ⟨a', c', hT2, hX2, hG2⟩
  have hz2 := hX2.size
  have HX2 := hide (Bx.trans (unhide HX1) hX2 (fun _ _ h => h))
  have hb2 := hX2.cell (p := ⟨w.heap.size, 0, none⟩) hb1 nbx
  have HG2 := hide (hG2.mono hz1')
  clear hX2 hG2 hT1 hb1 HA HBA HB0
  have hT2' : To B Z2 { p with ar := a', cr := c' } (s.mk1 P 0) := by
    have e : s.mk1 P 0 = { s.sed P s.ls.length with rows := s.rows ++ [P] } := by simp [Ts.mk1, edL, Ts.sed]
    rw [e]; exact hT2
  clear hT2
  have HPB : Hid (({ p with ar := a', cr := c' } : Tl).b = p.b ∧ ({ p with ar := a', cr := c' } : Tl).ak = p.ak) := hide ⟨rfl, rfl⟩
  revert hT2' HG2 HPB
  generalize ({ p with ar := a', cr := c' } : Tl) = p2
  intro HG2 hT2 HPB
  have hw2 : ∀ i, (s.mk1 P 0).wd i = s.wd i := fun i => by
    have : (s.mk1 P 0).wd i = (s.sed P s.ls.length).wd i := by show ((s.mk1 P 0).ls.getD i ln0).wd = ((s.sed P s.ls.length).ls.getD i ln0).wd; simp [Ts.mk1, edL]
    rw [this]; exact Ts.sed_wd s P _ i
  have hsb := (unhide HV).sb
  have HBS := hide fun (X : World) (hX : Below Z2.heap.size Z2 X) => bsf_any p2.go p2.co w.heap.size s.ord (sp (s.wd P ++ [0])) (fun i => cmS (s.wd (s.ord.getD i 0)) (s.wd P ++ [0])) X (by rw [(unhide HV).ol]; omega) (((hT2.below hX).od.lt rfl).2)
    (fun i hi => by
      obtain ⟨g3, e3, -, -, -, k3, -⟩ := own_at (i := i) (hT2.below hX).od hi
      cases e3; exact k3)
    (fun i j hij hj hc => by
      rcases Nat.eq_or_lt_of_le hij with e | e
      · subst e; exact hc
      · exact cmS_neg.2 (((unhide HV).os i j e (by rw [← (unhide HV).ol]; exact hj)).tra (cmS_neg.1 hc)))
    (fun Y hY i hi => by
      have hX2 := bstep hX hY
      have := cmpAt_any (hT2.below hX2) (bx := w.heap.size) (by rw [(unhide HPB).1]; exact (hX2.cell (p := ⟨w.heap.size, 0, none⟩) (World.block_lt_of_cell? Z2 _ hb2)).trans hb2) (i := s.ord.getD i 0) (by rw [Ts.mk1_len]; have := (unhide HV).om i (by rw [← (unhide HV).ol]; exact hi); omega) (by rw [hw2]; exact hsb _) (v := s.wd P ++ [0]) ((hsb P).app (Sb.one (by omega) (by omega)))
      rw [hw2] at this
      exact this)
  have hb2' := hb2
  rw [← (unhide HPB).1] at hb2'
  go_wp2
  refine kmd_region _ B p2 (s.mk1 P 0) w.heap.size (s.wd P) _ _ _ _ _ _ _ _ _ _ _ _ _ _ _ _ _ _ _ _ _ _ _ _ _ _ _ _ _ _ _ _ _ _ _ _ _ _ _ _ _ _ _ _ _ _ _ _ _ _ _ _ _ _ _ _ _ _ _ _ _ _ _ _ _ _ _ _ _ _ _ _ _ _ _ _ _ _ _ _ _ _ _ _ _ _ _ _ _ _ _ _ _ _ _ _ _ _ _ _ _ _ _ _ _ _ _ _ _ _ _ _ hT2 hb2' (by omega) (fun X hX => by have := unhide HBS X hX; exact (this.mono fun e w' hq => by
    have hf : (fun i => cmS ((s.mk1 P 0).wd ((s.mk1 P 0).ord.getD i 0)) (s.wd P ++ [0])) = fun i => cmS (s.wd (s.ord.getD i 0)) (s.wd P ++ [0]) := funext fun i => by rw [hw2]; rfl
    rw [hf]; exact hq)) ?_
  rintro Z3 x0 x1 x2 x3 x4 x5 x6 x7 x8 x9 x10 x11 x12 x13 hZ3 ⟨at', rfl, hk0, hk1', hk2'⟩
  have HAT : Hid (MkA s P at') := hide ⟨hk0, fun i hi => by have := hk1' i hi; rw [hw2] at this; exact this, fun i h1 h2 => by have := hk2' i h1 h2; rw [hw2] at this; exact this⟩
  have HT3 := hide (hT2.below hZ3)
  have HX3 := hide (Bx.trans (unhide HX2) (Bx.of (X := p.has) hZ3) (fun _ _ h => h))
  have hb3 := (hZ3.cell (p := ⟨w.heap.size, 0, none⟩) (World.block_lt_of_cell? Z2 _ hb2)).trans hb2
  have hz3 := hZ3.size
  have HB3 := hide hb3
  have d1 := (unhide HT3).c1
  rw [(unhide HPB).1] at d1
  have hat2 : at' ≤ s.ord.length := hk0
  have hK0 : (s.mk1 P 0).K = s.K := rfl
  rw [hK0] at d1
  clear hk0 hk1' hk2' hZ3 hT2 hb2 hb2' HBS hsb hw2 HX1 HX2 hK0
  go_wp2
  go_loopw [7, 57] (fun ve iv wr => ∃ (X : Nat) (ae : Option Addr) (ce : Nat) (p3 : Tl), ve = .slice ae X ce ∧ iv = .int .i64 (X : Int) ∧ X ≤ s.K ∧ Hid (To B wr p3 (s.mk1 P X)) ∧ Hid (OwnL .i64 3 wr (w.heap.size + 1) (.slice ae X ce) (ni (edP s.ls.length X))) ∧ Hid (∀ k, obk ae = some k → ¬ p3.has k) ∧ Hid (Bx p.has w wr) ∧ Hid (Gw p p3 (w.heap.size + 1)) ∧ Hid (p3.b = p.b ∧ p3.ak = p.ak) ∧ Hid (wr.cell? ⟨w.heap.size, 0, none⟩ = some (.pointer (some ⟨p.b, 0, none⟩))) ∧ w.heap.size + 1 ≤ wr.heap.size) (fun _ iv _ => s.K - (intOf iv).toNat)
  case atStart => exact ⟨0, none, 0, p2, rfl, rfl, Nat.zero_le _, HT3, hide (OwnL.nil _ _ _ _), hide (fun k hk => by cases hk), HX3, HG2, HPB, HB3, by omega⟩
  case round =>
    clear HT3 HX3 HG2 HPB HB3 hb3 d1
    obtain ⟨X, ae, ce, p3, rfl, rfl, hX, HT, HE, HN, HX, HG, HPB, HBX, hsz⟩ := hrel
    by_cases hlt : X < s.K
    · have hlt' : (X : Int) < (s.K : Int) := by omega
      have e4 := (unhide HT).c4
      rw [(unhide HPB).1, Ts.mk1_len] at e4
      have b4 := unhide HBX
      have hM : s.ls.length + X ≤ 1000000 := by omega
      have HL1 : Hid ((s.mk1 P X).ls.length = s.ls.length + X) := hide (Ts.mk1_len s P X)
      have hEl : (edP s.ls.length X).length = X := edP_len _ _
      have hEs : edP s.ls.length (X + 1) = edP s.ls.length X ++ [s.ls.length + X] := edP_succ _ _
      have HES := hide hEs
      have HEL := hide hEl
      have HELS := hide (edP_len s.ls.length (X + 1))
      have HM := hide (rfl : s.ls.length + X = s.ls.length + X)
      obtain ⟨a2, c2, w2, hr2, r1, r2, r3⟩ := push_ni (w := wr.alloc (.cells #[.int .i64 ((s.ls.length + X : Nat) : Int)] 3)) 57 ((unhide HE).grown (ballo _ _)) (N := wr.heap.size) (P := s.ls.length + X) (by simp) hEl.symm (by rw [hEl]; omega) (by simp; omega)
      rw [← hEs, unhide HELS] at hr2 r1
      have hw2s : wr.heap.size + 1 ≤ w2.heap.size := by have := r2.size; simpa using this
      have HT2 := hide (((unhide HT).below (ballo wr (.cells #[.int .i64 ((s.ls.length + X : Nat) : Int)] 3))).keep (w' := w2) fun i b e => r2.block b (by have := ((unhide HT).lt e).2; simp; omega) (fun q => unhide HN b q.symm ⟨i, e⟩))
      have HX2 := hide (((unhide HX).alloc (.cells #[.int .i64 ((s.ls.length + X : Nat) : Int)] 3)).grown r2 (fun k e hk => by
        have := ((unhide HE).lt (b := k) (by rw [ob_sl]; exact e)).1; omega))
      have hb2 : w2.cell? ⟨w.heap.size, 0, none⟩ = some (.pointer (some ⟨p.b, 0, none⟩)) := r2.cell (a := ⟨w.heap.size, 0, none⟩) (((ballo wr _).cell (p := ⟨w.heap.size, 0, none⟩) (World.block_lt_of_cell? wr _ b4)).trans b4) (fun q => by
        have := ((unhide HE).lt (b := w.heap.size) (by rw [ob_sl]; exact q.symm)).1; omega)
      rw [← (unhide HPB).1] at hb2
      have HE2 := hide r1
      have HN2 : Hid (∀ k, obk a2 = some k → ¬ p3.has k) := hide fun k hk hp => by
        rcases r3 k hk with q | q
        · exact unhide HN k q hp
        · have := ((unhide HT).hlt hp).2
          simp at q; omega
      have nbx3 : ¬ p3.has w.heap.size := fun q => (unhide HG _ q).elim nbx fun e => by omega
      clear r1 r2 r3 hEl hEs
      generalize s.ls.length + X = M at *
      go_wp2_with (at_builtin; refine Lib.wpList_append_run _ rfl _ _ _ _ rfl _ _ rfl rfl _ _ hr2 ?_)
      refine kmc_region _ w2.heap.size B p3 (s.mk1 P X) w.heap.size (s.wd P) X _ _ _ _ _ _ _ _ _ _ _ _ _ _ _ _ _ _ _ _ _ _ _ _ _ _ _ _ _ _ _ _ _ _ _ _ _ _ _ _ _ _ _ _ _ _ _ _ _ _ _ _ _ _ _ _ _ _ _ _ _ _ _ _ _ _ _ _ _ _ _ _ _ _ _ _ _ _ _ _ _ _ _ _ _ _ _ _ _ _ _ _ _ _ _ _ _ _ _ _ _ _ _ _ _ _ _ _ _ _ _ rfl (unhide HT2) hb2 nbx3 (by rw [unhide HL1]; omega) (by omega) (by omega) (by omega) ?_
      rintro Z4 x0 x1 x2 x3 x4 x5 x6 x7 x8 x9 x10 x11 x12 x13 ⟨g', c', q1, q2, q3⟩
      have hT4 : To B Z4 { p3 with gl := g', cl := c' } (s.mk1 P (X + 1)) := by rw [← Ts.mk1_succ]; exact q1
      have HE4 : Hid (OwnL .i64 3 Z4 (w.heap.size + 1) (.slice a2 (X + 1) c2) (ni (edP s.ls.length (X + 1)))) := hide ((unhide HE2).keep fun b e => q2.block b ((unhide HE2).lt e).2 (unhide HN2 b (by rw [ob_sl] at e; exact e)))
      have HN4 : Hid (∀ k, obk a2 = some k → ¬ ({ p3 with gl := g', cl := c' } : Tl).has k) := hide fun k hk hp => (q3 k hp).elim (unhide HN2 k hk) fun e => by
        have := ((unhide HE2).lt (b := k) (by rw [ob_sl]; exact hk)).2; omega
      have HX4 := hide ((unhide HG).bx (unhide HX2) q2 (by omega))
      have HG4 := hide ((unhide HG).trans q3 (by omega))
      have HB4 : Hid (Z4.cell? ⟨w.heap.size, 0, none⟩ = some (.pointer (some ⟨p.b, 0, none⟩))) := hide (by
        rw [(unhide HPB).1] at hb2
        exact q2.cell (p := ⟨w.heap.size, 0, none⟩) hb2 nbx3)
      have HPB4 : Hid (({ p3 with gl := g', cl := c' } : Tl).b = p.b ∧ ({ p3 with gl := g', cl := c' } : Tl).ak = p.ak) := hide (unhide HPB)
      have hz4 := q2.size
      have HT4 := hide hT4
      clear q1 q2 q3 hT4
      go_wp2
      go_roundw
      case rel => exact ⟨X + 1, a2, c2, _, rfl, by go_num, hlt, HT4, HE4, HN4, HX4, HG4, HPB4, HB4, by omega⟩
      case measure => simp [intOf]; omega
    · obtain rfl : X = s.K := by omega
      obtain ⟨ge, ce', eE, -, -, -, -, -⟩ := (unhide HE).pos (by rw [ni_len, edP_len]; omega)
      rw [ni_len, edP_len] at eE
      cases eE
      have nbx3 : ¬ p3.has w.heap.size := fun q => (unhide HG _ q).elim nbx fun e => by omega
      have b4 := unhide HBX
      have HPB0 := HPB
      have b4' := b4
      rw [← (unhide HPB).1] at b4'
      have hol := (unhide HV).ol
      have HOL := hide hol
      have hat3 : at' ≤ (s.mk1 P s.K).ord.length := hat2
      have hzz : (s.mk1 P s.K).ord.length + (edP s.ls.length s.K).length ≤ 1000000 := by rw [edP_len]; show s.ord.length + s.K ≤ _; omega
      clear hol
      go_wp2
      refine kme_region _ wr.heap.size B p3 (s.mk1 P s.K) w.heap.size at' (edP s.ls.length s.K) ge s.K ce _ _ _ _ _ _ _ _ _ _ _ _ _ _ _ _ _ _ _ _ _ _ _ _ _ _ _ _ _ _ _ _ _ _ _ _ _ _ _ _ _ _ _ _ _ _ _ _ _ _ _ _ _ _ _ _ _ _ _ _ _ _ _ _ _ _ _ _ _ _ _ _ _ _ _ _ _ _ _ _ _ _ _ _ _ _ _ _ _ _ _ _ _ _ _ _ _ _ _ _ _ _ _ _ _ _ _ _ _ _ _ rfl (edP_len _ _).symm (unhide HT) b4' nbx3 (by omega) (w.heap.size + 1) (by rw [edP_len]; exact unhide HE) (unhide HN ge rfl) hat3 (by rw [edP_len]; omega) hzz ?_
      rintro Z5 x0 x1 x2 x3 x4 x5 x6 x7 x8 x9 ⟨g', c', q1, q2, q3⟩
      have HX5 := hide ((unhide HG).bx (unhide HX) q2 (by omega))
      have HG5 := hide ((unhide HG).trans q3 (by omega))
      have HB5 : Hid (Z5.cell? ⟨w.heap.size, 0, none⟩ = some (.pointer (some ⟨p.b, 0, none⟩))) := hide (q2.cell (p := ⟨w.heap.size, 0, none⟩) b4 nbx3)
      have hT5 : To B Z5 { p3 with go := g', co := c' } (s.mk3 P at' 0) := by
        have e : s.mk3 P at' 0 = { s.mk1 P s.K with ord := s.ord.take at' ++ edP s.ls.length s.K ++ s.ord.drop at' } := by simp [Ts.mk3, Ts.mk2, Ts.mk1, Ts.sed]
        rw [e]; exact q1
      have HP5' : Hid (({ p3 with go := g', co := c' } : Tl).b = p.b ∧ ({ p3 with go := g', co := c' } : Tl).ak = p.ak) := hide (unhide HPB)
      have HK5 := HAT
      clear q1 q2 q3 b4 b4' HT HE HN HX HG HPB HPB0 HBX
      revert hT5 HG5 HP5'
      generalize ({ p3 with go := g', co := c' } : Tl) = p5
      intro HG5 hT5 HP5'
      have HP5 := hide (unhide HP5').1
      have HT5 := hide hT5
      have e8 := hT5.c8
      rw [unhide HP5, Ts.mk3_len] at e8
      have b5 := unhide HB5
      have hkn := hT5.kn
      rw [Ts.mk3_len] at hkn
      have HP6 := hide (unhide HP5').2
      cases hak : p5.ak with
      | none =>
        rw [hak] at e8 hkn
        have HK0 : Hid (s.kn.length = 0) := hide (by
          rcases hkn.2 with ⟨e, e2⟩ | ⟨g, _, _, e, _⟩
          · injection e with _ e3 _
          · cases e)
        clear hT5 hkn hak
        go_wp2
        go_loopw [98] (fun iv wr => ∃ C : Nat, iv = .int .i64 (C : Int) ∧ C ≤ s.kn.length ∧ Hid (To B wr p5 (s.mk3 P at' C)) ∧ Hid (Bx p.has w wr) ∧ Hid (wr.cell? ⟨w.heap.size, 0, none⟩ = some (.pointer (some ⟨p.b, 0, none⟩)))) (fun iv _ => s.kn.length - (intOf iv).toNat)
        case atStart => exact ⟨0, rfl, Nat.zero_le _, HT5, HX5, HB5⟩
        case round =>
          obtain ⟨C, rfl, hC, HT6, HX6, HB6⟩ := hrel
          clear e8 HT5 HX5 HB5
          by_cases hlt : C < s.kn.length
          · have hlt' : (C : Int) < (s.kn.length : Int) := by omega
            exfalso; have := unhide HK0; omega
          · obtain rfl : C = s.kn.length := by omega
            have HP : Hid (MkP B p s P w (.returned (.tuple #[])) wr) := hide ⟨p5, at', rfl, by have := unhide HT6; rwa [Ts.mk3_end] at this, unhide HX6, (unhide HG5).mono (by omega), unhide HP5, unhide HK5⟩
            go_wp2
            go_end0
            exact unhide HP
      | some ad =>
        rw [hak] at e8 hkn
        obtain ⟨gk, rfl⟩ : ∃ gk, ad = ⟨gk, 0, none⟩ := by
          rcases hkn.2 with ⟨e, _⟩ | ⟨g, _, _, e, _⟩
          · cases e
          · injection e with e _ _; exact ⟨g, by injection e⟩
        have HAK := hide hak
        have HKB : Hid (p.has gk) := hide ⟨7, by show obk p.ak = _; rw [← unhide HP6, hak]; rfl⟩
        have HNK : Hid (gk ≠ w.heap.size) := hide (fun q => by have := unhide HL0 gk (unhide HKB); omega)
        clear hT5 hkn hak
        go_wp2
        go_loopw [98] (fun iv wr => ∃ C : Nat, iv = .int .i64 (C : Int) ∧ C ≤ s.kn.length ∧ Hid (To B wr p5 (s.mk3 P at' C)) ∧ Hid (Bx p.has w wr) ∧ Hid (wr.cell? ⟨w.heap.size, 0, none⟩ = some (.pointer (some ⟨p.b, 0, none⟩)))) (fun iv _ => s.kn.length - (intOf iv).toNat)
        case atStart => exact ⟨0, rfl, Nat.zero_le _, HT5, HX5, HB5⟩
        case round =>
          obtain ⟨C, rfl, hC, HT6, HX6, HB6⟩ := hrel
          clear e8 HT5 HX5 HB5
          by_cases hlt : C < s.kn.length
          · have hlt' : (C : Int) < (s.kn.length : Int) := by omega
            have hT6 := unhide HT6
            have f8 := hT6.c8
            rw [unhide HAK, unhide HP5] at f8
            have hl3 : (s.mk3 P at' C).kn.length = s.kn.length := Ts.mk3_len s P at' C
            rw [hl3] at f8
            obtain ⟨gk', ek', -, -, -, k0', kf'⟩ := own_at (i := C) hT6.kn (by rw [hl3]; exact hlt)
            rw [unhide HAK] at ek'
            have e7 : gk = gk' := by injection ek' with ek'; injection ek'
            subst e7
            rw [Ts.mk3_at s P at' hlt] at k0'
            have kfc := kf' C
            have b6 := unhide HB6
            have HT7 := hide (hT6.setKn (unhide HAK) C (min (s.kn.getD C 0) at'))
            rw [Ts.mk3_set s P at' hlt] at HT7
            have hX : p.has gk := unhide HKB
            have HX7 := hide ((unhide HX6).setCell (p := ⟨gk, C, none⟩) hX (.int .i64 ((min (s.kn.getD C 0) at' : Nat) : Int)))
            have HB7 : Hid (∀ u, (wr.setCell ⟨gk, C, none⟩ u).cell? ⟨w.heap.size, 0, none⟩ = some (.pointer (some ⟨p.b, 0, none⟩))) := hide fun u => (World.cell?_setCell_other (w := wr) (a := ⟨gk, C, none⟩) (b := ⟨w.heap.size, 0, none⟩) (v := u) (h := fun e => by injection e with e1 _ _; exact unhide HNK e1)).trans b6
            clear hT6 hl3 kf' hX
            generalize s.kn.getD C 0 = n at *
            by_cases hq : at' < n
            · have HE := hide (show ((min n at' : Nat) : Int) = (at' : Int) by omega)
              rw [unhide HE] at HX7 HT7
              go_wp2
              go_roundw
              case rel => exact ⟨C + 1, by go_num, hlt, HT7, HX7, hide (unhide HB7 _)⟩
              case measure => simp [intOf]; omega
            · have HE := hide (show ((min n at' : Nat) : Int) = (n : Int) by omega)
              rw [unhide HE] at HX7 HT7
              go_wp2
              go_roundw
              case rel => exact ⟨C + 1, by go_num, hlt, HT7, HX7, hide (unhide HB7 _)⟩
              case measure => simp [intOf]; omega
          · obtain rfl : C = s.kn.length := by omega
            have HP : Hid (MkP B p s P w (.returned (.tuple #[])) wr) := hide ⟨p5, at', rfl, by have := unhide HT6; rwa [Ts.mk3_end] at this, unhide HX6, (unhide HG5).mono (by omega), unhide HP5, unhide HK5⟩
            go_wp2
            go_end0
            exact unhide HP
end

end Go.Proofs.Ytepmdnggiajkbaa

/-
  The program's table in plain words: a row more, a column more, a word more.
-/
namespace Go.Proofs.Ytepmdnggiajkbaa
set_option linter.unusedVariables false

theorem lex_between : ∀ {u v : List Int} {a b : Int}, v.length = u.length + 1 → Lex (u ++ [a]) v → Lex v (u ++ [b]) → ∃ y, v = u ++ [y]
  | [], v, a, b, hl, _, _ => by
    obtain ⟨y, rfl⟩ := List.length_eq_one_iff.1 (by simpa using hl)
    exact ⟨y, rfl⟩
  | x :: u, [], a, b, hl, _, _ => by simp at hl
  | x :: u, z :: v, a, b, hl, h, g => by
    simp only [List.cons_append, Lex] at h g
    rcases h with h | ⟨e1, h⟩
    · rcases g with g | ⟨e2, g⟩
      · omega
      · omega
    · rcases g with g | ⟨e2, g⟩
      · omega
      · obtain ⟨y, e⟩ := lex_between (by simpa using hl) h g
        exact ⟨y, by rw [e, ← e1]; rfl⟩
theorem sum_zero : ∀ {l : List Nat}, (∀ x ∈ l, x = 0) → l.sum = 0
  | [], _ => rfl
  | x :: l, h => by rw [List.sum_cons, h x (by simp), sum_zero fun y hy => h y (by simp [hy])]
theorem ahd_between {u v : List Int} {a b : Int} (h : Ahd (u ++ [a]) v) (g : Ahd v (u ++ [b])) : ∃ y, v = u ++ [y] := by
  rcases h with h | ⟨e, h⟩ <;> rcases g with g | ⟨e', g⟩ <;> simp only [List.length_append, List.length_singleton] at *
  · omega
  · omega
  · omega
  · exact lex_between (by omega) h g
theorem getD_app_lt {α : Type} {a b : List α} {d : α} {i : Nat} (h : i < a.length) : (a ++ b).getD i d = a.getD i d := by
  rw [List.getD_eq_getElem?_getD, List.getElem?_append_left h, List.getD_eq_getElem?_getD]
theorem getD_app_ge {α : Type} {a b : List α} {d : α} {i : Nat} (h : a.length ≤ i) : (a ++ b).getD i d = b.getD (i - a.length) d := by
  rw [List.getD_eq_getElem?_getD, List.getElem?_append_right h, List.getD_eq_getElem?_getD]
theorem getD_mem {α : Type} {a : List α} {d : α} {i : Nat} (h : i < a.length) : a.getD i d ∈ a := by
  rw [List.getD_eq_getElem?_getD, List.getElem?_eq_getElem h]; exact List.getElem_mem h
section
variable {s : Ts} {t : Tb} {P a : Nat}
theorem Ts.mkR_lt {i : Nat} (hP : P < s.ls.length) (h : i < s.ls.length) : (s.mkR P a).ln i = if i = P then { s.ln P with ed := s.ls.length } else s.ln i := by
  have : (s.mkR P a).ln i = (s.sed P s.ls.length).ln i := by
    show ((s.sed P s.ls.length).ls ++ edL (s.wd P) s.K).getD i ln0 = _
    exact getD_app_lt (by simpa [Ts.sed] using h)
  rw [this]
  exact ln_set hP i
theorem Ts.mkR_ge {x : Nat} (hx : x < s.K) : (s.mkR P a).ln (s.ls.length + x) = ⟨s.wd P ++ [(x : Int)], 0, 0, 0⟩ := by
  have hl : (s.sed P s.ls.length).ls.length = s.ls.length := by simp [Ts.sed]
  show ((s.sed P s.ls.length).ls ++ edL (s.wd P) s.K).getD (s.ls.length + x) ln0 = _
  rw [getD_app_ge (by omega), hl, Nat.add_sub_cancel_left]
  unfold edL
  exact getD_range _ _ hx
theorem Ts.mkR_wl {i : Nat} (hP : P < s.ls.length) (h : i < s.ls.length) : (s.mkR P a).wd i = s.wd i := by
  unfold Ts.wd
  rw [Ts.mkR_lt hP h]
  by_cases c : i = P
  · subst c; rw [if_pos rfl]
  · rw [if_neg c]
theorem Ts.mkR_wg {x : Nat} (hx : x < s.K) : (s.mkR P a).wd (s.ls.length + x) = s.wd P ++ [(x : Int)] := by
  unfold Ts.wd; rw [Ts.mkR_ge hx]; rfl
theorem Ts.mkR_len : (s.mkR P a).ls.length = s.ls.length + s.K := by
  show ((s.sed P s.ls.length).ls ++ edL (s.wd P) s.K).length = _
  simp [Ts.sed, edL_len]
theorem Ts.mkR_rw {i : Nat} : (s.mkR P a).rw i = (s.rows ++ [P]).getD i 0 := rfl
/-- No line is an edge of a line that is no row. -/
theorem Vi.fresh (V : Vi s) (hP : P < s.ls.length) (h0 : (s.ln P).ed = 0) {j : Nat} (hj : j < s.ls.length) {y : Int} (e : s.wd j = s.wd P ++ [y]) : False := by
  rcases Nat.eq_zero_or_pos j with c | c
  · subst c; rw [V.r0] at e; simp at e
  · have hq : j - 1 < s.K * s.rows.length := by rw [V.len] at hj; omega
    have hi : (j - 1) / s.K < s.rows.length := Nat.div_lt_of_lt_mul hq
    have hx : (j - 1) % s.K < s.K := Nat.mod_lt _ V.k1
    have ep : j = 1 + s.K * ((j - 1) / s.K) + (j - 1) % s.K := by have := Nat.div_add_mod (j - 1) s.K; omega
    have e1 := V.ed _ _ hi hx
    rw [← ep, e] at e1
    have e2 := (List.append_inj' e1 rfl).1
    have e3 := V.nd P (s.rw ((j - 1) / s.K)) hP (V.rwlt hi) e2
    have := (V.rg _ hi).2
    rw [← e3] at this
    omega
theorem mem_edP {L K p : Nat} : p ∈ edP L K ↔ ∃ x, x < K ∧ p = L + x := by
  unfold edP
  rw [List.mem_map]
  constructor
  · rintro ⟨x, hx, rfl⟩; exact ⟨x, List.mem_range.1 hx, rfl⟩
  · rintro ⟨x, hx, rfl⟩; exact ⟨x, List.mem_range.2 hx, rfl⟩
theorem Vi.mkR (V : Vi s) (hP : P < s.ls.length) (h0 : (s.ln P).ed = 0) (hr : s.rows.length < 1024) (A : MkA s P a) : Vi (s.mkR P a) := by
  have hPn : ∀ i, i < s.rows.length → s.rw i ≠ P := fun i hi e => by have := (V.rg i hi).2; rw [e] at this; omega
  have hlen : (s.mkR P a).ls.length = s.ls.length + s.K := Ts.mkR_len
  have hrl : (s.mkR P a).rows.length = s.rows.length + 1 := by show (s.rows ++ [P]).length = _; simp
  have hK : (s.mkR P a).K = s.K := rfl
  have hrw : ∀ i, i < s.rows.length → (s.mkR P a).rw i = s.rw i := fun i hi => by rw [Ts.mkR_rw]; exact getD_app_lt hi
  have hrP : (s.mkR P a).rw s.rows.length = P := by rw [Ts.mkR_rw, getD_app_ge (Nat.le_refl _)]; simp
  have hL := V.len
  have hord : (s.mkR P a).ord = s.ord.take a ++ edP s.ls.length s.K ++ s.ord.drop a := rfl
  have hmem : ∀ p, p ∈ (s.mkR P a).ord ↔ p ∈ s.ord ∨ ∃ x, x < s.K ∧ p = s.ls.length + x := fun p => by
    rw [hord, List.mem_append, List.mem_append, mem_edP]
    constructor
    · rintro ((h | h) | h)
      · exact .inl (List.mem_of_mem_take h)
      · exact .inr h
      · exact .inl (List.mem_of_mem_drop h)
    · rintro (h | h)
      · rw [← List.take_append_drop a s.ord] at h
        rcases List.mem_append.1 h with h | h
        · exact .inl (.inl h)
        · exact .inr h
      · exact .inl (.inr h)
  have homem : ∀ p ∈ s.ord, p < s.ls.length := fun p hp => by
    obtain ⟨i, hi, rfl⟩ := List.getElem_of_mem hp
    have := V.om i (by rw [← V.ol]; exact hi)
    rwa [List.getD_eq_getElem?_getD, List.getElem?_eq_getElem hi] at this
  have hpw : s.ord.Pairwise fun p q => Ahd (s.wd p) (s.wd q) := List.pairwise_iff_getElem.2 fun i j hi hj hij => by
    have := V.os i j hij (by rw [← V.ol]; exact hj)
    rwa [List.getD_eq_getElem?_getD, List.getElem?_eq_getElem hi, List.getD_eq_getElem?_getD, List.getElem?_eq_getElem hj] at this
  have hW : ∀ p ∈ s.ord, (s.mkR P a).wd p = s.wd p := fun p hp => Ts.mkR_wl hP (homem p hp)
  have hol : (s.mkR P a).ord.length = s.ls.length + s.K := by
    rw [hord]; simp [edP_len]; have := A.1; have := V.ol; omega
  have htk : ∀ p ∈ s.ord.take a, Ahd (s.wd p) (s.wd P ++ [0]) := fun p hp => by
    obtain ⟨i, hi, rfl⟩ := List.getElem_of_mem hp
    rw [List.length_take] at hi
    have := cmS_neg.1 (A.2.1 i (by omega))
    rwa [List.getD_eq_getElem?_getD, List.getElem?_eq_getElem (by omega), ← List.getElem_take (h := by rw [List.length_take]; omega)] at this
  have hdr : ∀ q ∈ s.ord.drop a, ∀ x, x < s.K → Ahd (s.wd P ++ [(x : Int)]) (s.wd q) := fun q hq x hx => by
    have hqo := homem q (List.mem_of_mem_drop hq)
    obtain ⟨i, hi, rfl⟩ := List.getElem_of_mem hq
    rw [List.length_drop] at hi
    have h1 := A.2.2 (a + i) (by omega) (by omega)
    rw [List.getD_eq_getElem?_getD, List.getElem?_eq_getElem (by omega)] at h1
    rw [List.getElem_drop] at hqo ⊢
    have h1' : 0 ≤ cmS (s.wd s.ord[a + i]) (s.wd P ++ [0]) := h1
    rcases Ahd.tot (s.wd P ++ [(x : Int)]) (s.wd s.ord[a + i]) with z | z | z
    · exact z
    · exact (V.fresh hP h0 hqo z.symm).elim
    · exfalso
      rcases Ahd.tot (s.wd P ++ [0]) (s.wd s.ord[a + i]) with y | y | y
      · obtain ⟨b, e⟩ := ahd_between y z
        exact V.fresh hP h0 hqo e
      · exact V.fresh hP h0 hqo y.symm
      · rw [cmS_lt y] at h1'; omega
  have hle : ∀ x : Nat, s.wd P ++ [0] = s.wd P ++ [(x : Int)] ∨ Ahd (s.wd P ++ [0]) (s.wd P ++ [(x : Int)]) := fun x => by
    rcases Nat.eq_zero_or_pos x with c | c
    · subst c; exact .inl rfl
    · exact .inr (Ahd.last _ (by omega))
  have hpw2 : (s.mkR P a).ord.Pairwise fun p q => Ahd ((s.mkR P a).wd p) ((s.mkR P a).wd q) := by
    rw [hord]
    have h1 : (s.ord.take a).Pairwise fun p q => Ahd ((s.mkR P a).wd p) ((s.mkR P a).wd q) := ((hpw.sublist (List.take_sublist a _)).imp_of_mem fun hp hq h => by rw [hW _ (List.mem_of_mem_take hp), hW _ (List.mem_of_mem_take hq)]; exact h)
    have h2 : (s.ord.drop a).Pairwise fun p q => Ahd ((s.mkR P a).wd p) ((s.mkR P a).wd q) := ((hpw.sublist (List.drop_sublist a _)).imp_of_mem fun hp hq h => by rw [hW _ (List.mem_of_mem_drop hp), hW _ (List.mem_of_mem_drop hq)]; exact h)
    have h3 : (edP s.ls.length s.K).Pairwise fun p q => Ahd ((s.mkR P a).wd p) ((s.mkR P a).wd q) := by
      unfold edP
      rw [List.pairwise_map]
      refine List.Pairwise.imp_of_mem (R := fun x y => x < y) (fun {x y} hx hy h => ?_) (List.pairwise_lt_range (n := s.K))
      rw [Ts.mkR_wg (List.mem_range.1 hx), Ts.mkR_wg (List.mem_range.1 hy)]
      exact Ahd.last _ (by omega)
    refine List.pairwise_append.2 ⟨List.pairwise_append.2 ⟨h1, h3, fun p hp q hq => ?_⟩, h2, fun p hp q hq => ?_⟩
    · obtain ⟨x, hx, rfl⟩ := mem_edP.1 hq
      rw [hW _ (List.mem_of_mem_take hp), Ts.mkR_wg hx]
      rcases hle x with e | e
      · rw [← e]; exact htk p hp
      · exact (htk p hp).tra e
    · rw [hW _ (List.mem_of_mem_drop hq)]
      rcases List.mem_append.1 hp with hp | hp
      · rw [hW _ (List.mem_of_mem_take hp)]
        have := hpw
        rw [← List.take_append_drop a s.ord] at this
        exact (List.pairwise_append.1 this).2.2 p hp q hq
      · obtain ⟨x, hx, rfl⟩ := mem_edP.1 hp
        rw [Ts.mkR_wg hx]
        exact hdr q hq x hx
  have hsplit : ∀ i, i < s.ls.length + s.K → i < s.ls.length ∨ ∃ x, x < s.K ∧ i = s.ls.length + x := fun i hi => by
    rcases Nat.lt_or_ge i s.ls.length with c | c
    · exact .inl c
    · exact .inr ⟨i - s.ls.length, by omega, by omega⟩
  have hmul : s.K * (s.rows.length + 1) = s.K * s.rows.length + s.K := Nat.mul_succ _ _
  refine ⟨V.k1, V.k2, V.kd, by rw [hlen, hrl, hK, hmul]; omega, by rw [hrl]; omega, by rw [Ts.mkR_wl hP (by omega)]; exact V.r0, fun i hi => ?_, fun i x hi hx => ?_, fun p hp => ?_, fun i j hi hj e => ?_, fun i x hx => ?_, fun i hi => ?_, by rw [hol, hlen], fun i hi => ?_, fun i j hij hj => ?_, fun p hp => ?_, V.cl, V.cw, V.cn, ?_, V.fw⟩
  · rw [hrl] at hi
    rcases Nat.lt_or_ge i s.rows.length with c | c
    · rw [hrw i c, Ts.mkR_lt hP (V.rwlt c), if_neg (hPn i c)]
      exact V.rg i c
    · obtain rfl : i = s.rows.length := by omega
      rw [hrP, Ts.mkR_lt hP hP, if_pos rfl]
      exact ⟨by rw [hK]; omega, by rw [hK]; show s.ls.length = _; omega⟩
  · rw [hrl] at hi
    rw [hK] at hx ⊢
    rcases Nat.lt_or_ge i s.rows.length with c | c
    · rw [hrw i c, Ts.mkR_wl hP (V.edge c hx), Ts.mkR_wl hP (V.rwlt c)]
      exact V.ed i x c hx
    · obtain rfl : i = s.rows.length := by omega
      rw [hrP, show 1 + s.K * s.rows.length + x = s.ls.length + x by omega, Ts.mkR_wg hx, Ts.mkR_wl hP hP]
  · have hp' : p ∉ s.rows ∧ p ≠ P := by
      have : p ∉ s.rows ++ [P] := hp
      simpa using this
    rcases Nat.lt_or_ge p (s.ls.length + s.K) with c | c
    · rcases hsplit p c with q | ⟨x, hx, rfl⟩
      · rw [Ts.mkR_lt hP q, if_neg hp'.2]; exact V.no p hp'.1
      · rw [Ts.mkR_ge hx]
    · unfold Ts.ln
      rw [List.getD_eq_getElem?_getD, List.getElem?_eq_none (by rw [hlen]; exact c)]; rfl
  · rw [hlen] at hi hj
    rcases hsplit i hi with q | ⟨x, hx, rfl⟩ <;> rcases hsplit j hj with r | ⟨y, hy, rfl⟩
    · rw [Ts.mkR_wl hP q, Ts.mkR_wl hP r] at e; exact V.nd i j q r e
    · rw [Ts.mkR_wl hP q, Ts.mkR_wg hy] at e; exact (V.fresh hP h0 q e).elim
    · rw [Ts.mkR_wg hx, Ts.mkR_wl hP r] at e; exact (V.fresh hP h0 r e.symm).elim
    · rw [Ts.mkR_wg hx, Ts.mkR_wg hy] at e
      have := (List.append_inj' e rfl).2
      simp only [List.cons.injEq, and_true] at this
      omega
  · rw [hK]
    rcases Nat.lt_or_ge i (s.ls.length + s.K) with c | c
    · rcases hsplit i c with q | ⟨y, hy, rfl⟩
      · rw [Ts.mkR_wl hP q] at hx; exact V.sy i x hx
      · rw [Ts.mkR_wg hy] at hx
        rcases List.mem_append.1 hx with hx | hx
        · exact V.sy P x hx
        · rw [List.mem_singleton] at hx; subst hx; omega
    · exfalso
      unfold Ts.wd Ts.ln at hx
      rw [List.getD_eq_getElem?_getD, List.getElem?_eq_none (by rw [hlen]; exact c)] at hx
      cases hx
  · rw [hlen] at hi
    rw [hrl]
    rcases hsplit i hi with q | ⟨x, hx, rfl⟩
    · rw [Ts.mkR_wl hP q]; have := V.wl i q; omega
    · rw [Ts.mkR_wg hx, List.length_append, List.length_singleton]; have := V.wl P hP; omega
  · rw [hlen] at hi ⊢
    have := (hmem _).1 (getD_mem (d := 0) (by rw [hol]; exact hi))
    rcases this with q | ⟨x, hx, e⟩
    · have := homem _ q; omega
    · omega
  · rw [hlen] at hj
    have := List.pairwise_iff_getElem.1 hpw2 i j (by rw [hol]; omega) (by rw [hol]; exact hj) hij
    rwa [List.getD_eq_getElem?_getD, List.getElem?_eq_getElem (by rw [hol]; omega), List.getD_eq_getElem?_getD, List.getElem?_eq_getElem (by rw [hol]; exact hj)]
  · rw [hlen] at hp ⊢
    have hm : p ∈ (s.mkR P a).ord := (hmem p).2 (by
      rcases hsplit p hp with q | q
      · left
        obtain ⟨i, hi, e⟩ := V.oa p q
        rw [← e]; exact getD_mem (by rw [V.ol]; exact hi)
      · exact .inr q)
    obtain ⟨i, hi, e⟩ := List.getElem_of_mem hm
    exact ⟨i, by rw [← hol]; exact hi, by rw [List.getD_eq_getElem?_getD, List.getElem?_eq_getElem hi]; exact e⟩
  · show (s.kn.map _).length = _
    rw [List.length_map]; exact V.kl
theorem Hd.mkR (H : Hd s) (V : Vi s) (hP : P < s.ls.length) (A : MkA s P a) : Hd (s.mkR P a) := by
  have hlen : (s.mkR P a).ls.length = s.ls.length + s.K := Ts.mkR_len
  have hcel : ∀ u e, (s.mkR P a).cel u e = s.cel u e := fun _ _ => rfl
  have hco : ∀ c, (s.mkR P a).co c = s.co c := fun _ => rfl
  have hisK : ∀ i c, i < s.ls.length → ((s.mkR P a).isK i c ↔ s.isK i c) := fun i c hi => by unfold Ts.isK; rw [hcel, hco, Ts.mkR_wl hP hi]
  have hsplit : ∀ i, i < s.ls.length + s.K → i < s.ls.length ∨ ∃ x, x < s.K ∧ i = s.ls.length + x := fun i hi => by
    rcases Nat.lt_or_ge i s.ls.length with c | c
    · exact .inl c
    · exact .inr ⟨i - s.ls.length, by omega, by omega⟩
  have hcc : ∀ i, i < s.ls.length → ((s.mkR P a).ln i).cp = (s.ln i).cp ∧ ((s.mkR P a).ln i).cl = (s.ln i).cl := fun i hi => by
    rw [Ts.mkR_lt hP hi]
    by_cases c : i = P
    · subst c; rw [if_pos rfl]; exact ⟨rfl, rfl⟩
    · rw [if_neg c]; exact ⟨rfl, rfl⟩
  refine ⟨⟨by show (s.kn.map _).length = _; rw [List.length_map]; exact H.kn.1, fun c hc => ?_⟩, fun i hi => ?_, ?_, ?_⟩
  · have hck : c < s.kn.length := by rw [H.kn.1]; exact hc
    have e : (s.mkR P a).kn.getD c 0 = min (s.kn.getD c 0) a := by
      show (s.kn.map fun n => min n a).getD c 0 = _
      rw [List.getD_eq_getElem?_getD, List.getElem?_map, List.getD_eq_getElem?_getD, List.getElem?_eq_getElem hck]; rfl
    rw [e, hlen]
    obtain ⟨h1, h2⟩ := H.kn.2 c hc
    refine ⟨by omega, fun i hi => ?_⟩
    have ea : (s.mkR P a).ord.getD i 0 = s.ord.getD i 0 := by
      show (s.ord.take a ++ edP s.ls.length s.K ++ s.ord.drop a).getD i 0 = _
      have := A.1
      rw [List.append_assoc, getD_app_lt (by rw [List.length_take]; omega), List.getD_eq_getElem?_getD, List.getElem?_take, if_pos (by omega), List.getD_eq_getElem?_getD]
    rw [ea, hisK _ _ (V.om i (by omega))]
    exact h2 i (by omega)
  · rw [hlen] at hi
    rcases hsplit i hi with q | ⟨x, hx, rfl⟩
    · rw [(hcc i q).1]
      obtain ⟨h1, h2⟩ := H.cp i q
      exact ⟨h1, fun c hc => (hisK i c q).2 (h2 c hc)⟩
    · rw [Ts.mkR_ge hx]
      exact ⟨Nat.zero_le _, fun c hc => by exact absurd hc (Nat.not_lt_zero _)⟩
  · obtain ⟨G, g1, g2⟩ := H.cl
    refine ⟨G, g1, fun i hi => ?_⟩
    rw [hlen] at hi
    rcases hsplit i hi with q | ⟨x, hx, rfl⟩
    · rw [(hcc i q).1, (hcc i q).2]
      obtain ⟨h1, h2⟩ := g2 i q
      refine ⟨h1, h2.trans ?_⟩
      unfold Ts.cst
      simp only [hcel, hco, Ts.mkR_wl hP q]
    · rw [Ts.mkR_ge hx]
      exact ⟨Nat.zero_le _, g1.g0⟩
  · have h1 := H.sm
    have h2 : ((s.mkR P a).ls.map Ln.cp).sum = (s.ls.map Ln.cp).sum := by
      show (((s.sed P s.ls.length).ls ++ edL (s.wd P) s.K).map Ln.cp).sum = _
      rw [List.map_append, List.sum_append]
      have z : ((edL (s.wd P) s.K).map Ln.cp).sum = 0 := by
        unfold edL
        rw [List.map_map]
        exact sum_zero fun x hx => by
          obtain ⟨y, _, rfl⟩ := List.mem_map.1 hx; rfl
      have := sum_set s.ls P { s.ln P with ed := s.ls.length } hP
      have e1 : ({ s.ln P with ed := s.ls.length } : Ln).cp = (s.ls.getD P ln0).cp := rfl
      rw [e1] at this
      rw [z]
      show ((s.ls.set P { s.ln P with ed := s.ls.length }).map Ln.cp).sum + 0 = _
      omega
    rw [h2]; exact h1
theorem Vw.mkR (W : Vw s t) (V : Vi s) (hP : P < s.ls.length) : Vw (s.mkR P a) { t with rows := t.rows ++ [s.wd P] } :=
  ⟨W.kd, W.k, W.o, by
    show t.rows ++ [s.wd P] = (s.rows ++ [P]).map (s.mkR P a).wd
    rw [List.map_append, W.rows]
    congr 1
    · exact List.map_congr_left fun i hi => by
        obtain ⟨k, hk, rfl⟩ := Vi.rw_of hi
        exact (Ts.mkR_wl hP (V.rwlt hk)).symm
    · simp [Ts.mkR_wl hP hP], W.cols, W.f, W.ln, by show 0 < (s.rows ++ [P]).length; simp⟩
/-- A column more. -/
def Ts.mkC (s : Ts) (e : List Int) : Ts := { s with cols := s.cols ++ [e], kn := s.kn ++ [0] }
variable {e : List Int}
theorem Vi.mkC (V : Vi s) (h1 : s.cols.length < 1024) (h2 : e.length ≤ 4096) (h3 : ∀ x ∈ e, 0 ≤ x ∧ x < (s.K : Int)) (h4 : e ∉ s.cols) : Vi (s.mkC e) :=
  { V with
    cl := by show (s.cols ++ [e]).length ≤ _; simp; omega
    cw := fun x hx => by
      rcases List.mem_append.1 (show x ∈ s.cols ++ [e] from hx) with hx | hx
      · exact V.cw x hx
      · rw [List.mem_singleton] at hx; subst hx; exact ⟨h2, h3⟩
    cn := List.nodup_append.2 ⟨V.cn, by simp, fun a ha b hb => by rw [List.mem_singleton] at hb; subst hb; intro q; subst q; exact h4 ha⟩
    kl := by show (s.kn ++ [0]).length = (s.cols ++ [e]).length; simp [V.kl] }
theorem Ts.mkC_co {c : Nat} (hc : c < s.cols.length) : (s.mkC e).co c = s.co c := getD_app_lt hc
theorem Hd.mkC (H : Hd s) (V : Vi s) : Hd (s.mkC e) := by
  have hisK : ∀ i c, c < s.cols.length → ((s.mkC e).isK i c ↔ s.isK i c) := fun i c hc => by
    unfold Ts.isK; rw [Ts.mkC_co hc]; exact Iff.rfl
  have hcl : (s.mkC e).cols.length = s.cols.length + 1 := by show (s.cols ++ [e]).length = _; simp
  refine ⟨⟨by show (s.kn ++ [0]).length = _; rw [hcl]; simp [H.kn.1], fun c hc => ?_⟩, fun i hi => ?_, ?_, H.sm⟩
  · rw [hcl] at hc
    rcases Nat.lt_or_ge c s.cols.length with q | q
    · have e1 : (s.mkC e).kn.getD c 0 = s.kn.getD c 0 := getD_app_lt (by rw [H.kn.1]; exact q)
      rw [e1]
      obtain ⟨h1, h2⟩ := H.kn.2 c q
      exact ⟨h1, fun i hi => (hisK _ c q).2 (h2 i hi)⟩
    · have e1 : (s.mkC e).kn.getD c 0 = 0 := by
        show (s.kn ++ [0]).getD c 0 = 0
        have := H.kn.1
        rw [getD_app_ge (by omega), show c - s.kn.length = 0 by omega]; rfl
      rw [e1]
      exact ⟨Nat.zero_le _, fun i hi => by omega⟩
  · obtain ⟨h1, h2⟩ := H.cp i hi
    exact ⟨by rw [hcl]; show (s.ln i).cp ≤ _; omega, fun c hc => (hisK i c (Nat.lt_of_lt_of_le hc h1)).2 (h2 c hc)⟩
  · obtain ⟨G, g1, g2⟩ := H.cl
    refine ⟨G, g1, fun i hi => ?_⟩
    obtain ⟨h1, h2⟩ := g2 i hi
    refine ⟨h1, h2.trans ?_⟩
    unfold Ts.cst
    exact List.map_congr_left fun c hc => by
      have := (H.cp i hi).1
      have hc' : c < (s.ln i).cp := List.mem_range.1 hc
      rw [Ts.mkC_co (by omega)]; rfl
theorem Vw.mkC (W : Vw s t) : Vw (s.mkC e) { t with cols := t.cols ++ [e] } :=
  ⟨W.kd, W.k, W.o, W.rows, by show t.cols ++ [e] = s.cols ++ [e]; rw [W.cols], W.f, W.ln, W.r1⟩
/-- What is said of a word more. -/
noncomputable def Ts.ptS (s : Ts) (w o : List Int) (n : Nat) : Ts := open Classical in { s with f := fun y => if y = w then some o else s.f y, nf := n }
theorem Ts.ptS_f {w o : List Int} {n : Nat} (y : List Int) : (s.ptS w o n).f y = open Classical in if y = w then some o else s.f y := rfl
theorem Vi.ptS (V : Vi s) {w o : List Int} {n : Nat} (h : w.length ≤ 4096 ∧ (∀ x ∈ w, 0 ≤ x ∧ x < (s.K : Int)) ∧ Sb o ∧ o.length ≤ 4096 ∧ (s.kind = 2 → o.length = w.length) ∧ (s.kind = 1 → o.length = 1)) : Vi (s.ptS w o n) :=
  { V with
    fw := fun y x hx => by
      rw [Ts.ptS_f] at hx
      by_cases c : y = w
      · rw [if_pos c] at hx; cases hx; rw [c]; exact h
      · rw [if_neg c] at hx; exact V.fw y x hx }
/-- What is known stays known, and says the same. -/
theorem ptS_cel {w o : List Int} {n : Nat} (hw : s.f w = none ∨ s.f w = some o) (u e : List Int) (hk : (s.cel u e).isSome = true) : (s.ptS w o n).cel u e = s.cel u e := by
  unfold Ts.cel at hk ⊢
  show (if 4096 < u.length + e.length then some [] else ((s.ptS w o n).f (u ++ e)).map fun o => if s.kind = 2 then o.drop u.length else o) = _
  by_cases c : 4096 < u.length + e.length
  · rw [if_pos c, if_pos c]
  · rw [if_neg c] at hk ⊢
    rw [if_neg c, Ts.ptS_f]
    by_cases q : u ++ e = w
    · rw [if_pos q]
      rcases hw with z | z
      · rw [q, z] at hk; cases hk
      · rw [q, z]
    · rw [if_neg q]
theorem Hd.ptS (H : Hd s) {w o : List Int} {n : Nat} (hw : s.f w = none ∨ s.f w = some o) : Hd (s.ptS w o n) := by
  have hisK : ∀ i c, s.isK i c → (s.ptS w o n).isK i c := fun i c hk => by
    have : (s.ptS w o n).cel (s.wd i) (s.co c) = s.cel (s.wd i) (s.co c) := ptS_cel hw _ _ hk
    show ((s.ptS w o n).cel (s.wd i) (s.co c)).isSome = true
    rw [this]; exact hk
  refine ⟨⟨H.kn.1, fun c hc => ⟨(H.kn.2 c hc).1, fun i hi => hisK _ c ((H.kn.2 c hc).2 i hi)⟩⟩, fun i hi => ⟨(H.cp i hi).1, fun c hc => hisK i c ((H.cp i hi).2 c hc)⟩, ?_, H.sm⟩
  obtain ⟨G, g1, g2⟩ := H.cl
  refine ⟨G, g1, fun i hi => ⟨(g2 i hi).1, (g2 i hi).2.trans ?_⟩⟩
  unfold Ts.cst
  exact List.map_congr_left fun c hc => by
    have := (H.cp i hi).2 c (List.mem_range.1 hc)
    show _ = ((s.ptS w o n).cel (s.wd i) (s.co c)).getD []
    rw [ptS_cel hw _ _ this]
theorem Vw.ptS (W : Vw s t) {w o : List Int} {n : Nat} (hw : w ∉ t.ws) : Vw (s.ptS w o n) { t with ws := t.ws ++ [w], os := t.os ++ [o] } :=
  ⟨W.kd, W.k, W.o, W.rows, W.cols, fun y => by
    rw [Ts.ptS_f]
    by_cases c : y = w
    · subst c
      rw [if_pos rfl]
      unfold plcO
      rw [if_pos (by simp), List.idxOf_append, if_neg hw]
      show some o = some ((t.os ++ [o]).getD (List.idxOf y [y] + t.ws.length) [])
      rw [getD_app_ge (by rw [W.ln]; omega), W.ln]
      simp
    · rw [if_neg c, W.f y]
      unfold plcO
      by_cases m : y ∈ t.ws
      · rw [if_pos m, if_pos (by simp [m]), List.idxOf_append, if_pos m]
        show some (t.os.getD (t.ws.idxOf y) []) = some ((t.os ++ [o]).getD (t.ws.idxOf y) [])
        rw [getD_app_lt (by rw [W.ln]; exact List.idxOf_lt_length_of_mem m)]
      · rw [if_neg m, if_neg (by simp [m, c])]; rfl, by show (t.os ++ [o]).length = (t.ws ++ [w]).length; simp [W.ln], W.r1⟩
theorem ptS_same {w o : List Int} (hw : s.f w = some o) : s.ptS w o s.nf = s := by
  unfold Ts.ptS
  have : (fun y => open Classical in if y = w then some o else s.f y) = s.f := by
    funext y
    by_cases c : y = w
    · subst c; rw [if_pos rfl, hw]
    · rw [if_neg c]
  rw [this]
end

end Go.Proofs.Ytepmdnggiajkbaa

/-
  The program's table: small functions: has, haveOutputs, firstCols, makeCol, fits.
-/
namespace Go.Proofs.Ytepmdnggiajkbaa
set_option linter.unusedVariables false
open Go.RowKit

/-- A slice of words reads so. -/
def RdS (w : World) (a : Option Addr) (l : List (List Int)) : Prop := l.length = 0 ∨ ∃ g, a = some ⟨g, 0, none⟩ ∧ ∀ i, i < l.length → w.cell? ⟨g, i, none⟩ = some (.string (sp (l.getD i [])))
theorem OwnG.rdS {w : World} {B n c : Nat} {a : Option Addr} {l : List (List Int)} (h : OwnG 47 1 spE w B (.slice a n c) l) : RdS w a l := by
  by_cases h0 : l.length = 0
  · exact .inl h0
  · obtain ⟨g, c', e, _, _, _, _, h1, _⟩ := h.pos spE_len [] (by omega)
    injection e with e1 e2 e3
    exact .inr ⟨g, e1, fun i hi => by have := h1 i 0 hi (by omega); rw [Nat.mul_one, Nat.add_zero] at this; exact this⟩
set_option maxRecDepth 100000 in
set_option maxHeartbeats 2000000 in
theorem index_any (a : Option Addr) (c : Nat) (l : List (List Int)) (v : List Int) (w : World) (hr : RdS w a l) (hl : ∀ x ∈ l, Sb x) (hv : Sb v) (hn : l.length ≤ 1000000) :
    Calls Try.prog 79 #[.slice a l.length c, .string (sp v)] w fun e w' => e = .returned (.int .i64 (plcV l v)) ∧ w' = w := by
  have HR := hide hr
  have HL := hide hl
  clear hr hl
  go_enter Try.func79, Try.ntmps79
  go_wp2
  go_loopw [8] (fun iv wr => ∃ I : Nat, iv = .int .i64 (I : Int) ∧ I ≤ l.length ∧ wr = w ∧ Hid (v ∉ l.take I)) (fun iv _ => l.length - (intOf iv).toNat)
  case atStart => exact ⟨0, rfl, Nat.zero_le _, rfl, hide (by simp)⟩
  case round =>
    obtain ⟨I, rfl, hI, rfl, HN⟩ := hrel
    by_cases hlt : I < l.length
    · have hlt' : (I : Int) < (l.length : Int) := by omega
      obtain ⟨g, rfl, hc⟩ : ∃ g, a = some ⟨g, 0, none⟩ ∧ ∀ i, i < l.length → wr.cell? ⟨g, i, none⟩ = some (.string (sp (l.getD i []))) := (unhide HR).resolve_left (by omega)
      have c0 := hc I hlt
      have hg : l.getD I [] = l[I] := by rw [List.getD_eq_getElem?_getD, List.getElem?_eq_getElem hlt]; rfl
      rw [hg] at c0
      have hs := sp_beq hv (unhide HL _ (List.getElem_mem hlt))
      have HT := hide (show l.take (I + 1) = l.take I ++ [l[I]] from List.take_succ_eq_append_getElem hlt)
      have HP := hide fun (e : l[I] = v) => plc_at (l := l) (w := v) (i := I) hlt e (unhide HN)
      clear hc hg
      generalize l[I] = x at *
      by_cases he : v = x
      · have HE := hide (unhide HP he.symm)
        rw [decide_eq_true he] at hs
        clear he HP HT
        go_wp2
        go_ret
        exact ⟨by rw [unhide HE]; rfl, by trivial⟩
      · have HNN := hide (show v ∉ l.take (I + 1) by
          rw [unhide HT]
          intro h
          rcases List.mem_append.1 h with h | h
          · exact unhide HN h
          · rw [List.mem_singleton] at h; exact he h)
        rw [decide_eq_false he] at hs
        clear he HP HT
        go_wp2
        go_roundw
        case rel => exact ⟨I + 1, by go_num, by omega, by trivial, HNN⟩
        case measure => simp [intOf]; omega
    · obtain rfl : I = l.length := by omega
      have HE := hide (plc_no (l := l) (w := v) (by have := unhide HN; rwa [List.take_length] at this))
      go_wp2
      go_ret
      exact ⟨by rw [unhide HE]; rfl, by trivial⟩
theorem plcV_mem {l : List (List Int)} {v : List Int} : decide (plcV l v ≥ 0) = decide (v ∈ l) := by
  have h0 := plc_neg (l := l) (w := v)
  have h1 : plcV l v < 0 ↔ v ∉ l := decide_eq_decide.1 h0
  exact decide_eq_decide.2 ⟨fun h => Classical.byContradiction fun n => by have := h1.2 n; omega, fun h => by
    have : ¬ plcV l v < 0 := fun q => h1.1 q h
    omega⟩
set_option maxRecDepth 100000 in
theorem has_any (a : Option Addr) (c : Nat) (l : List (List Int)) (v : List Int) (w : World) (hr : RdS w a l) (hl : ∀ x ∈ l, Sb x) (hv : Sb v) (hn : l.length ≤ 1000000) :
    Calls Try.prog 34 #[.slice a l.length c, .string (sp v)] w fun e w' => e = .returned (.bool (decide (v ∈ l))) ∧ w' = w := by
  have hi := index_any a c l v w hr hl hv hn
  have HM := hide (plcV_mem (l := l) (v := v))
  have hc : Calls Try.prog 60 #[.slice a l.length c, .string (sp v)] w fun e w' => e = .returned (.bool (decide (v ∈ l))) ∧ w' = w := by
    generalize plcV l v = z at *
    generalize decide (v ∈ l) = b at *
    clear hr hl hv
    go_enter Try.func60, Try.ntmps60
    go_wp2_with fail
    refine hi.mono ?_
    rintro e w1 ⟨rfl, hw1⟩
    subst hw1
    go_wp2
    go_ret
    exact ⟨by rw [← unhide HM]; simp, rfl⟩
  generalize decide (v ∈ l) = b at *
  clear hi HM hr hl hv
  go_enter Try.func34, Try.ntmps34
  go_wp2_with fail
  refine hc.mono ?_
  rintro e w1 ⟨rfl, hw1⟩
  subst hw1
  go_wp2
  go_ret
  exact ⟨rfl, rfl⟩
theorem haveO_any (kind o : Int) (w : World) (hk : kind = 1 ∨ kind = 2) : Calls Try.prog 41 #[.int .i64 kind, .int .i64 o] w fun e w' => e = .returned (.bool (decide (¬ ((kind = 1 ∧ o ≠ 2) ∨ o < 1 ∨ 64 < o)))) ∧ w' = w := by
  rcases hk with rfl | rfl
  · rw [show decide (¬ (((1 : Int) = 1 ∧ o ≠ 2) ∨ o < 1 ∨ 64 < o)) = (o == 2) by
      by_cases h : o = 2
      · subst h; rfl
      · rw [beq_eq_false_iff_ne.2 h]; exact decide_eq_false (fun q => q (.inl ⟨rfl, h⟩))]
    go_enter Try.func41, Try.ntmps41
    go_wp2
    go_ret
    exact ⟨by rfl, by trivial⟩
  · by_cases h1 : 1 ≤ o
    · by_cases h2 : o ≤ 64
      · rw [show decide (¬ (((2 : Int) = 1 ∧ o ≠ 2) ∨ o < 1 ∨ 64 < o)) = true from decide_eq_true (by omega)]
        go_enter Try.func41, Try.ntmps41
        go_wp2
        go_ret
        exact ⟨by rfl, by trivial⟩
      · rw [show decide (¬ (((2 : Int) = 1 ∧ o ≠ 2) ∨ o < 1 ∨ 64 < o)) = false from decide_eq_false (by omega)]
        go_enter Try.func41, Try.ntmps41
        go_wp2
        go_ret
        exact ⟨by rfl, by trivial⟩
    · rw [show decide (¬ (((2 : Int) = 1 ∧ o ≠ 2) ∨ o < 1 ∨ 64 < o)) = false from decide_eq_false (by omega)]
      go_enter Try.func41, Try.ntmps41
      go_wp2
      go_ret
      exact ⟨by rfl, by trivial⟩
/-- What firstCols leaves. -/
def FcP (kind k : Int) (w : World) (e : Ending) (w' : World) : Prop := ∃ v, e = .returned v ∧ OwnG 47 1 spE w' w.heap.size v (tnC kind k) ∧ Below w.heap.size w w'
theorem tnC_len {kind k : Int} : (tnC kind k).length = if kind = 1 then 1 else k.toNat := by unfold tnC; split <;> simp
set_option maxRecDepth 100000 in
set_option maxHeartbeats 2000000 in
theorem firstCols_any (kind : Int) (K : Nat) (w : World) (hk : kind = 1 ∨ kind = 2) (hK : K ≤ 64) : Calls Try.prog 42 #[.int .i64 kind, .int .i64 (K : Int)] w (FcP kind K w) := by
  rcases hk with rfl | rfl
  · have HP : Hid (FcP 1 K w (.returned (.slice (some ⟨w.heap.size, 0, none⟩) 1 1)) (w.alloc (.cells #[.string ⟨#[]⟩] 47))) := hide ⟨_, rfl, OwnG.lit1 spE_len w _ [] _ (Nat.le_refl _) rfl, ballo _ _⟩
    go_enter Try.func42, Try.ntmps42
    go_wp2
    go_ret
    exact unhide HP
  · have hK' : (K : Int) ≤ 64 := by omega
    go_enter Try.func42, Try.ntmps42
    go_wp2
    go_loopw [5, 11] (fun v iv wr => ∃ (C : Nat) (a : Option Addr) (c : Nat), v = .slice a C c ∧ iv = .int .i64 (C : Int) ∧ C ≤ K ∧ Hid (OwnG 47 1 spE wr w.heap.size (.slice a C c) (tnC 2 C)) ∧ Below w.heap.size w wr) (fun _ iv _ => K - (intOf iv).toNat)
    case atStart => exact ⟨0, none, 0, rfl, rfl, Nat.zero_le _, hide (OwnG.nil _ _), Below.refl _ _⟩
    case round =>
      obtain ⟨C, a, c, rfl, rfl, hC, HW, hB⟩ := hrel
      by_cases hlt : C < K
      · have hlt' : (C : Int) < (K : Int) := by omega
        have hs := symbol_any (C : Int) wr (by omega) (by omega)
        go_wp2_with fail
        refine hs.mono ?_
        rintro e w1 ⟨rfl, hb1⟩
        have hB1 := bstep hB hb1
        have hz := hB1.size
        obtain ⟨a2, c2, w2, hr2, r1, r2, r3⟩ := push_g eSp 59 (((unhide HW).below hb1).below (ballo w1 (.cells #[.string (sp [(C : Int)])] 47))) (N := w1.heap.size) (x := [(C : Int)]) (fun j u hj => by
          match j, hj with
          | 0, hj => cases hj; simp
          | _ + 1, hj => cases hj) (by simp [tnC]) (by simp [tnC]; omega) (by simp [tnC]; unfold maxLen; omega) (by simp; omega)
        have e1 : tnC 2 (C : Int) ++ [[(C : Int)]] = tnC 2 ((C + 1 : Nat) : Int) := by
          unfold tnC
          rw [if_neg (by decide), if_neg (by decide), Int.toNat_natCast, Int.toNat_natCast, List.range_succ, List.map_append]; rfl
        have e2 : (tnC 2 (C : Int) ++ [[(C : Int)]]).length = C + 1 := by simp [tnC]
        rw [e2] at hr2 r1
        rw [e1] at r1
        have HW2 := hide r1
        have HB2 := hide ((balloc hB1 (.cells #[.string (sp [(C : Int)])] 47)).grown r2 (by simp; omega) (fun k hk => (((unhide HW).below hb1).lt (b := k) (by rw [ob_sl]; exact hk)).1))
        clear r1 r2 r3 e1 e2 hs
        go_wp2_with (at_builtin; refine Lib.wpList_append_run _ rfl _ _ _ _ rfl _ _ rfl rfl _ _ hr2 ?_)
        go_roundw
        case rel => exact ⟨C + 1, a2, c2, rfl, by go_num, hlt, HW2, unhide HB2⟩
        case measure => simp [intOf]; omega
      · obtain rfl : C = K := by omega
        have HP : Hid (FcP 2 C w (.returned (.slice a C c)) wr) := hide ⟨_, rfl, unhide HW, hB⟩
        go_wp2
        go_ret
        exact unhide HP
section
variable {B : Nat} {w w' : World} {p : Tl} {s : Ts}
/-- What makeCol leaves. -/
def McP (B : Nat) (p : Tl) (s : Ts) (e : List Int) (w : World) (en : Ending) (w' : World) : Prop := ∃ p', en = .returned (.tuple #[]) ∧ To B w' p' (s.mkC e) ∧ Bx p.has w w' ∧ Gw p p' w.heap.size ∧ p'.b = p.b
set_option maxRecDepth 100000 in
set_option maxHeartbeats 4000000 in
theorem makeCol_any (h : To B w p s) (hB : B ≤ w.heap.size) (hc : s.cols.length ≤ 100000) (hk : s.kn.length ≤ 100000) (e : List Int) :
    Calls Try.prog 35 #[.pointer (some ⟨p.b, 0, none⟩), .string (sp e)] w (McP B p s e w) := by
  have hA := h.below (ballo w (.cells #[.string (sp e)] 47))
  have c7 := h.c7
  have c7a := hA.c7
  obtain ⟨a2, c2, w2, hr2, r1, r2, r3⟩ := push_g eSp 59 hA.cs (N := w.heap.size) (x := e) (fun j u hj => by
    match j, hj with
    | 0, hj => cases hj; simp
    | _ + 1, hj => cases hj) rfl (by omega) (by unfold maxLen; omega) (by simp; omega)
  have hke : KeO 6 w p w2 := ((KeO.refl 6 w p).below (ballo w _) (fun i b e => (h.lt e).2)).grown r2 (fun i b e => (h.lt e).2) h.dis
  obtain ⟨q1, q2, q3⟩ := h.new6 r1 hke (fun k hk => (r3 k hk).imp id fun e => by simp at e; omega)
  have d7 : w2.cell? ⟨p.b, 7, none⟩ = some (.slice p.ac s.cols.length p.cc) := hke.cell h (by decide) 7
  have f7 := hke.frz h (by decide) 7
  revert q1 q2 q3
  generalize hp2 : ({ p with ac := a2, cc := c2 } : Tl) = p2
  intro q1 q2 q3
  have hb2 : p2.b = p.b := by rw [← hp2]
  have hak : p2.ak = p.ak := by rw [← hp2]
  have hck : p2.ck = p.ck := by rw [← hp2]
  clear hp2
  generalize hw3 : w2.setCell ⟨p.b, 7, none⟩ (.slice a2 (s.cols ++ [e]).length c2) = w3 at q1 q2 q3
  have hA3 := q1.below (ballo w3 (.cells #[.int .i64 0] 3))
  have c8 := q1.c8
  rw [hb2, hak, hck] at c8
  have hz3 := q2.size
  obtain ⟨a4, c4, w4, hr4, s1, s2, s3⟩ := push_ni (w := w3.alloc (.cells #[.int .i64 0] 3)) 57 hA3.kn (N := w3.heap.size) (P := 0) (by simp) rfl (by show s.kn.length ≤ _; omega) (by simp; omega)
  have hke3 : KeO 7 w3 p2 w4 := ((KeO.refl 7 w3 p2).below (ballo w3 _) (fun i b e => (q1.lt e).2)).grown s2 (fun i b e => (q1.lt e).2) q1.dis
  obtain ⟨u1, u2, u3⟩ := q1.new7 s1 hke3 (fun k hk => (s3 k hk).imp id fun e => by simp at e; omega)
  have d8 : w4.cell? ⟨p2.b, 8, none⟩ = some (.slice p2.ak s.kn.length p2.ck) := hke3.cell q1 (by decide) 8
  have f8 := hke3.frz q1 (by decide) 8
  rw [hb2] at d8 f8
  rw [hak, hck] at hr4
  have HP : Hid (McP B p s e w (.returned (.tuple #[])) (w4.setCell ⟨p.b, 8, none⟩ (.slice a4 (s.kn ++ [0]).length c4))) := hide (by
    have u1' : To B (w4.setCell ⟨p.b, 8, none⟩ (.slice a4 (s.kn ++ [0]).length c4)) { p2 with ak := a4, ck := c4 } (s.mkC e) := by rw [← hb2]; exact u1
    have u2' : Bx p2.has w3 (w4.setCell ⟨p.b, 8, none⟩ (.slice a4 (s.kn ++ [0]).length c4)) := by rw [← hb2]; exact u2
    exact ⟨{ p2 with ak := a4, ck := c4 }, rfl, u1', q3.bx q2 u2' (Nat.le_refl _), q3.trans u3 q2.size, hb2⟩)
  clear q1 q2 q3 hA hA3 r1 r2 r3 s1 s2 s3 hke hke3 u1 u2 u3 h
  subst hw3
  clear c7a
  generalize (s.cols ++ [e]).length = n7 at *
  generalize hn8 : (s.kn ++ [0]).length = n8 at *
  clear hn8
  generalize p.ac = A7 at *
  generalize p.ak = A8 at *
  generalize s.cols.length = L7 at *
  generalize s.kn.length = L8 at *
  rw [show (w2.setCell ⟨p.b, 7, none⟩ (.slice a2 n7 c2)).heap.size = w2.heap.size by simp] at hr4
  clear hb2 hak hck hz3 hc hk hB
  go_enter Try.func35, Try.ntmps35
  go_wp2_with (first | (at_builtin; refine Lib.wpList_append_run _ rfl _ _ _ _ rfl _ _ rfl rfl _ _ hr2 ?_; clear hr2) | (at_builtin; refine Lib.wpList_append_run _ rfl _ _ _ _ rfl _ _ rfl rfl _ _ hr4 ?_))
  go_wp2
  go_end0
  exact unhide HP
/-- Does an answer fit a word? -/
def qOfT (s : Ts) (a1 : Option Addr) (c1 : Nat) (wd : List Int) : Pq := ⟨⟨1, wd, ⟨s.kind, (s.K : Int), s.o, 0, [], []⟩⟩, a1, c1, none, 0, none, 0⟩
def aOfT (a2 : Option Addr) (c2 : Nat) (out : List Int) : Pa := ⟨⟨1, out, []⟩, a2, c2, none, 0⟩
def fitS (s : Ts) (wd out : List Int) : Int := chkA ⟨1, wd, ⟨s.kind, (s.K : Int), s.o, 0, [], []⟩⟩ ⟨1, out, []⟩
set_option maxRecDepth 100000 in
set_option maxHeartbeats 2000000 in
theorem tfits_any (a1 : Option Addr) (c1 : Nat) (wd : List Int) (a2 : Option Addr) (c2 : Nat) (out : List Int) (h : To B w p s) (h2 : RdL .i64 w a2 out) (hl : out.length ≤ maxLen) :
    Calls Try.prog 36 #[.pointer (some ⟨p.b, 0, none⟩), .slice a1 wd.length c1, .slice a2 out.length c2] w fun e w' => e = .returned (.bool (fitS s wd out == 0)) ∧ Below w.heap.size w w' := by
  have k0 := h.c0
  have k1 := h.c1
  have k2 := h.c2
  have hlt := h.o.lt
  have H2 := hide h2
  clear h h2
  go_enter Try.func36, Try.ntmps36
  go_wp2
  go_region
  have hQ := (Qb.alloc w (qOfT s a1 c1 wd) 110).below (Below.refl _ _).drew
  have hbq := (ballo w (.cells #[.int .i64 1, .slice a1 wd.length c1, .int .i64 s.kind, .int .i64 (s.K : Int), .int .i64 s.o, .int .i64 0, .slice none 0 0, .slice none 0 0] 110)).drew
  change Qb (w.alloc (.cells #[.int .i64 1, .slice a1 wd.length c1, .int .i64 s.kind, .int .i64 (s.K : Int), .int .i64 s.o, .int .i64 0, .slice none 0 0, .slice none 0 0] 110)).drew _ _ at hQ
  generalize (w.alloc (.cells #[.int .i64 1, .slice a1 wd.length c1, .int .i64 s.kind, .int .i64 (s.K : Int), .int .i64 s.o, .int .i64 0, .slice none 0 0, .slice none 0 0] 110)).drew = W at *
  obtain ⟨p0, p1, p2, p3, p4, p5, p6, p7⟩ := hQ
  have ht := tcheck_any (qOfT s a1 c1 wd) (aOfT a2 c2 out) W ⟨(unhide H2).below hbq, RdL.nil _ _ _⟩ hl (by unfold maxLen; exact Nat.zero_le _)
  change Calls _ _ #[.agg #[.int .i64 1, .slice a1 wd.length c1, .int .i64 s.kind, .int .i64 (s.K : Int), .int .i64 s.o, .int .i64 0, .slice none 0 0, .slice none 0 0], .agg #[.int .i64 1, .slice a2 out.length c2, .slice none 0 0]] _ (fun e w' => e = .returned (.int .i64 (fitS s wd out)) ∧ Below W.heap.size W w') at ht
  change W.cell? _ = some (.int .i64 1) at p0
  change W.cell? _ = some (.slice a1 wd.length c1) at p1
  change W.cell? _ = some (.int .i64 s.kind) at p2
  change W.cell? _ = some (.int .i64 (s.K : Int)) at p3
  change W.cell? _ = some (.int .i64 s.o) at p4
  change W.cell? _ = some (.int .i64 0) at p5
  change W.cell? _ = some (.slice none 0 0) at p6
  change W.cell? _ = some (.slice none 0 0) at p7
  clear k0 k1 k2 hlt
  go_wp2_with fail
  refine ht.mono ?_
  rintro e w1 ⟨rfl, hb1⟩
  obtain ⟨F, hF⟩ : ∃ F, fitS s wd out = F := ⟨_, rfl⟩
  have HF := hide hF
  rw [hF]
  clear hF
  go_wp2
  go_ret
  exact ⟨by rw [unhide HF]; rfl, bstep hbq hb1⟩
end

end Go.Proofs.Ytepmdnggiajkbaa
