/-
  Some texts of this seat, one behind the other.
-/
import Derived.Test.YtepmdnggiajkbaaK21
import Derived.Test.YtepmdnggiajkbaaK35
import Derived.Test.YtepmdnggiajkbaaK36
import Derived.Test.YtepmdnggiajkbaaK38
/-
  Statements of the program's machine() whose order is open: a number more behind one of the machine's lists.
-/
namespace Go.Proofs.Ytepmdnggiajkbaa
set_option linter.unusedVariables false
open Go.RowKit

/-- All is as it was, but one block: and that one, till it is written to. -/
def MaB (ob : Option Nat) (W0 : World) (b : Bool) (W : World) : Prop := Bx (fun k => ob = some k) W0 W ∧ (b = false → Below W0.heap.size W0 W)
theorem MaB.start (ob : Option Nat) (W0 : World) : MaB ob W0 false W0.drew := ⟨(Bx.refl _ _).drew, fun _ => (Below.refl _ _).drew⟩
theorem MaB.below {ob : Option Nat} {W0 W W' : World} {b : Bool} (h : MaB ob W0 b W) (hb : Below W.heap.size W W') : MaB ob W0 b W' := ⟨h.1.trans (Bx.of (X := fun k => ob = some k) hb) (fun _ _ y => y), fun e => bstep (h.2 e) hb⟩
theorem MaB.grown {ob : Option Nat} {W0 W W' : World} {b : Bool} (h : MaB ob W0 b W) (hg : W.grownBy W' ob) : MaB ob W0 true W' := ⟨h.1.grown hg (fun k e _ => e), fun e => by cases e⟩
theorem push_z {w : World} {B n c : Nat} {a : Option Addr} {A : List Int} (ty : TypeId) (h : OwnL .i64 3 w B (.slice a n c) A) {N c0 : Nat} {z : Int} (hc : w.cell? ⟨N, 0, none⟩ = some (.int .i64 z)) (hR : A.length ≤ 1000000) (hB : B ≤ w.heap.size) :
    ∃ a' c' w', (Builtin.append_ #[22, 22] ty #[.slice a n c, .slice (some ⟨N, 0, none⟩) 1 c0]).run Try.prog w = .ok (.slice a' (A ++ [z]).length c') w' ∧ OwnL .i64 3 w' B (.slice a' (A ++ [z]).length c') (A ++ [z]) ∧ w.grownBy w' (obk a) ∧ ∀ k, obk a' = some k → obk a = some k ∨ w.heap.size ≤ k := by
  obtain ⟨v', w', r1, r2, r3, r4, r5⟩ := run_pushA (w := w) eInt ty B (.slice a n c) A h ⟨N, 0, none⟩ c0 [z] (.inr ⟨N, 0, rfl, fun i hi => by
    have h0 : i = 0 := by simpa using hi
    subst h0; exact hc⟩) (by simp; omega) hB
  obtain ⟨a', c', e, -⟩ := r2.shape
  subst e
  rw [ob_sl] at r4
  refine ⟨a', c', w', r1, r2, r4, fun k hk => ?_⟩
  rcases r5 k (by rw [ob_sl]; exact hk) with q | q
  · left; rw [ob_sl] at q; exact q
  · right; omega
theorem fldM4 {w : World} {b : Nat} : (Instr.fieldAt 27 (.pointer (some ⟨b, 0, none⟩)) 4).run Try.prog w = .ok (.pointer (some ⟨b, 4, none⟩)) w := by go_simp
theorem fldM5 {w : World} {b : Nat} : (Instr.fieldAt 27 (.pointer (some ⟨b, 0, none⟩)) 5).run Try.prog w = .ok (.pointer (some ⟨b, 5, none⟩)) w := by go_simp
theorem fldC0 {w : World} {b : Nat} : (Instr.fieldAt 73 (.pointer (some ⟨b, 0, none⟩)) 0).run Try.prog w = .ok (.pointer (some ⟨b, 0, none⟩)) w := by go_simp
theorem fldL3 {w : World} {b k : Nat} : (Instr.fieldAt 54 (.pointer (some ⟨b, k, none⟩)) 3).run Try.prog w = .ok (.pointer (some ⟨b, k + 3, none⟩)) w := by go_simp
theorem ldSi {w : World} {b k : Nat} {v : Value} (h : w.cell? ⟨b, k, none⟩ = some v) : (Instr.loadAt 22 (.pointer (some ⟨b, k, none⟩))).run Try.prog w = .ok v w := by
  go_simp
theorem ldSp {w : World} {b k : Nat} {v : Value} (h : w.cell? ⟨b, k, none⟩ = some v) : (Instr.loadAt 47 (.pointer (some ⟨b, k, none⟩))).run Try.prog w = .ok v w := by
  go_simp
theorem ldIn {w : World} {b k : Nat} {v : Value} (h : w.cell? ⟨b, k, none⟩ = some v) : (Instr.loadAt 3 (.pointer (some ⟨b, k, none⟩))).run Try.prog w = .ok v w := by
  go_simp
theorem stSi {w : World} {b k : Nat} {u : Value} (h : w.cell? ⟨b, k, none⟩ = some u) (hf : w.frozen? ⟨b, k, none⟩ = false) (a : Option Addr) (n c : Nat) : (Instr.storeAt 22 (.pointer (some ⟨b, k, none⟩)) (.slice a n c)).run Try.prog w = .ok () (w.setCell ⟨b, k, none⟩ (.slice a n c)) := by
  go_simp
theorem run_litZ {w : World} (z : Int) : (Instr.buildSlice 22 1 #[(0, .int .i64 z)]).run Try.prog w = .ok (.slice (some ⟨w.heap.size, 0, none⟩) 1 1) (w.alloc (.cells #[.int .i64 z] 3)) := by
  go_simp
theorem Bx.frz' {X : Nat → Prop} {w w' : World} (h : Bx X w w') {b i : Nat} (hb : b < w.heap.size) (hx : ¬ X b) (hf : w.frozen? ⟨b, i, none⟩ = false) : w'.frozen? ⟨b, i, none⟩ = false := by
  have := h.block b hb hx
  unfold World.frozen? at hf ⊢
  rw [this]; exact hf

def mra0 : Oper := { dst := some 79, op := Op.fieldAddr 27 (Operand.tmp 10) 4, type := 0, pos := "table.go:220", after := #[], guard := none }
def mra1 : Oper := { dst := some 80, op := Op.load 22 (Operand.tmp 79), type := 22, pos := "table.go:220", after := #[{ on := 0, ground := Ground.data }], guard := none }
def mra2 : Oper := { dst := some 81, op := Op.move (Operand.tmp 3), type := 91, pos := "table.go:220", after := #[], guard := none }
def mra3 : Oper := { dst := some 82, op := Op.move (Operand.tmp 0), type := 23, pos := "table.go:220", after := #[], guard := none }
def mra4 : Oper := { dst := some 83, op := Op.nilCheck (Operand.tmp 82), type := 0, pos := "table.go:220", after := #[{ on := 3, ground := Ground.data }], guard := none }
def mra5 : Oper := { dst := some 84, op := Op.fieldAddr 62 (Operand.tmp 83) 4, type := 0, pos := "table.go:220", after := #[{ on := 4, ground := Ground.data }], guard := none }
def mra6 : Oper := { dst := some 85, op := Op.load 56 (Operand.tmp 84), type := 56, pos := "table.go:220", after := #[{ on := 5, ground := Ground.data }], guard := none }
def mra7 : Oper := { dst := some 86, op := Op.move (Operand.tmp 0), type := 23, pos := "table.go:220", after := #[], guard := none }
def mra8 : Oper := { dst := some 87, op := Op.move (Operand.tmp 12), type := 3, pos := "table.go:220", after := #[], guard := none }
def mra9 : Oper := { dst := some 88, op := Op.move (Operand.tmp 13), type := 3, pos := "table.go:220", after := #[], guard := none }
def mra10 : Oper := { dst := some 89, op := Op.call { callee := Callee.value (Operand.func 49), args := #[Operand.tmp 86, Operand.tmp 87, Operand.tmp 88], argTypes := #[23, 3, 3] }, type := 3, pos := "table.go:220", after := #[{ on := 7, ground := Ground.data }, { on := 8, ground := Ground.data }, { on := 9, ground := Ground.data }], guard := none }
def mra11 : Oper := { dst := some 90, op := Op.indexAddr 56 (Operand.tmp 85) (Operand.tmp 89), type := 0, pos := "table.go:220", after := #[{ on := 6, ground := Ground.data }, { on := 10, ground := Ground.data }], guard := none }
def mra12 : Oper := { dst := some 91, op := Op.fieldAddr 54 (Operand.tmp 90) 3, type := 0, pos := "table.go:220", after := #[{ on := 11, ground := Ground.data }], guard := none }
def mra13 : Oper := { dst := some 92, op := Op.load 3 (Operand.tmp 91), type := 3, pos := "table.go:220", after := #[{ on := 12, ground := Ground.data }], guard := none }
def mra14 : Oper := { dst := some 93, op := Op.lookup 91 (Operand.tmp 81) (Operand.tmp 92) false, type := 3, pos := "table.go:220", after := #[{ on := 2, ground := Ground.data }, { on := 13, ground := Ground.data }], guard := none }
def mra15 : Oper := { dst := some 94, op := Op.buildSlice 22 1 #[(0, Operand.tmp 93)], type := 22, pos := "table.go:220", after := #[{ on := 14, ground := Ground.data }], guard := none }
def mra16 : Oper := { dst := some 95, op := Op.call { callee := Callee.builtin Builtin.append, args := #[Operand.tmp 80, Operand.tmp 94], argTypes := #[22, 22] }, type := 22, pos := "table.go:220", after := #[{ on := 1, ground := Ground.data }, { on := 15, ground := Ground.data }, { on := 10, ground := Ground.chain }], guard := none }
def mra17 : Oper := { dst := some 96, op := Op.fieldAddr 27 (Operand.tmp 10) 4, type := 0, pos := "table.go:220", after := #[{ on := 0, ground := Ground.phase }, { on := 1, ground := Ground.phase }, { on := 2, ground := Ground.phase }, { on := 3, ground := Ground.phase }, { on := 4, ground := Ground.phase }, { on := 5, ground := Ground.phase }, { on := 6, ground := Ground.phase }, { on := 7, ground := Ground.phase }, { on := 8, ground := Ground.phase }, { on := 9, ground := Ground.phase }, { on := 10, ground := Ground.phase }, { on := 11, ground := Ground.phase }, { on := 12, ground := Ground.phase }, { on := 13, ground := Ground.phase }, { on := 14, ground := Ground.phase }, { on := 15, ground := Ground.phase }, { on := 16, ground := Ground.phase }], guard := none }
def mra18 : Oper := { dst := none, op := Op.store 22 (Operand.tmp 96) (Operand.tmp 95), type := 0, pos := "table.go:220", after := #[{ on := 17, ground := Ground.data }, { on := 16, ground := Ground.data }, { on := 16, ground := Ground.chain }, { on := 0, ground := Ground.phase }, { on := 1, ground := Ground.phase }, { on := 2, ground := Ground.phase }, { on := 3, ground := Ground.phase }, { on := 4, ground := Ground.phase }, { on := 5, ground := Ground.phase }, { on := 6, ground := Ground.phase }, { on := 7, ground := Ground.phase }, { on := 8, ground := Ground.phase }, { on := 9, ground := Ground.phase }, { on := 10, ground := Ground.phase }, { on := 11, ground := Ground.phase }, { on := 12, ground := Ground.phase }, { on := 13, ground := Ground.phase }, { on := 14, ground := Ground.phase }, { on := 15, ground := Ground.phase }, { on := 16, ground := Ground.phase }], guard := none }
def mraOps : Array Oper := #[mra0, mra1, mra2, mra3, mra4, mra5, mra6, mra7, mra8, mra9, mra10, mra11, mra12, mra13, mra14, mra15, mra16, mra17, mra18]

def mraT (N0 B : Nat) (p : Tl) (s : Ts) (mb mm P x qq : Nat) (a1 : Option Addr) (n1 c1 : Nat) (A : List Int) (z : Int) : Nat → Value → World → Prop
  | 0, v, _ => v = .pointer (some ⟨mb, 4, none⟩)
  | 1, v, _ => v = .slice a1 n1 c1
  | 2, v, _ => v = .map (some mm)
  | 3, v, _ => v = .pointer (some ⟨p.b, 0, none⟩)
  | 4, v, _ => v = .pointer (some ⟨p.b, 0, none⟩)
  | 5, v, _ => v = .pointer (some ⟨p.b, 4, none⟩)
  | 6, v, _ => v = .slice (some ⟨p.gl, 0, none⟩) s.ls.length p.cl
  | 7, v, _ => v = .pointer (some ⟨p.b, 0, none⟩)
  | 8, v, _ => v = .int .i64 (P : Int)
  | 9, v, _ => v = .int .i64 (x : Int)
  | 10, v, _ => v = .int .i64 (qq : Int)
  | 11, v, _ => v = .pointer (some ⟨p.gl, qq * 4, none⟩)
  | 12, v, _ => v = .pointer (some ⟨p.gl, qq * 4 + 3, none⟩)
  | 13, v, _ => v = .int .i64 ((s.ln qq).cl : Int)
  | 14, v, _ => v = .int .i64 z
  | 15, v, W => ∃ N, v = .slice (some ⟨N, 0, none⟩) 1 1 ∧ N0 ≤ N ∧ W.cell? ⟨N, 0, none⟩ = some (.int .i64 z)
  | 16, v, W => ∃ a' c', v = .slice a' (A ++ [z]).length c' ∧ OwnL .i64 3 W (mb + 1) v (A ++ [z]) ∧ ∀ j, obk a' = some j → obk a1 = some j ∨ N0 ≤ j
  | 17, v, _ => v = .pointer (some ⟨mb, 4, none⟩)
  | _, _, _ => True
set_option maxRecDepth 100000 in
set_option maxHeartbeats 1000000 in
theorem mra_ok : okS2 mraOps [79, 80, 81, 82, 83, 84, 85, 86, 87, 88, 89, 90, 91, 92, 93, 94, 95, 96] = true := by kernel_rfl
theorem mraT_below (N0 B : Nat) (p : Tl) (s : Ts) (mb mm P x qq : Nat) (a1 : Option Addr) (n1 c1 : Nat) (A : List Int) (z : Int) {v : Value} {W W' : World} (hb : Below W.heap.size W W') : ∀ {i : Nat}, mraT N0 B p s mb mm P x qq a1 n1 c1 A z i v W → mraT N0 B p s mb mm P x qq a1 n1 c1 A z i v W'
  | 0, h => h
  | 1, h => h
  | 2, h => h
  | 3, h => h
  | 4, h => h
  | 5, h => h
  | 6, h => h
  | 7, h => h
  | 8, h => h
  | 9, h => h
  | 10, h => h
  | 11, h => h
  | 12, h => h
  | 13, h => h
  | 14, h => h
  | 15, ⟨N, e, h1, h2⟩ => ⟨N, e, h1, (hb.cell (World.block_lt_of_cell? W _ h2)).trans h2⟩
  | 16, ⟨a', c', e, h1, h2⟩ => ⟨a', c', e, OwnL.grown h1 hb, h2⟩
  | 17, h => h
  | _ + 18, h => h
theorem mraT_gr (N0 B : Nat) (p : Tl) (s : Ts) (mb mm P x qq : Nat) (a1 : Option Addr) (n1 c1 : Nat) (A : List Int) (z : Int) {W W' : World} (hs : ∀ N j x, N0 ≤ N → W.cell? ⟨N, j, none⟩ = some x → W'.cell? ⟨N, j, none⟩ = some x) {v : Value} : ∀ {i : Nat}, i ≠ 16 → mraT N0 B p s mb mm P x qq a1 n1 c1 A z i v W → mraT N0 B p s mb mm P x qq a1 n1 c1 A z i v W'
  | 0, _, h => h
  | 1, _, h => h
  | 2, _, h => h
  | 3, _, h => h
  | 4, _, h => h
  | 5, _, h => h
  | 6, _, h => h
  | 7, _, h => h
  | 8, _, h => h
  | 9, _, h => h
  | 10, _, h => h
  | 11, _, h => h
  | 12, _, h => h
  | 13, _, h => h
  | 14, _, h => h
  | 15, _, ⟨N, e, h1, h2⟩ => ⟨N, e, h1, hs N 0 _ h1 h2⟩
  | 16, n, _ => absurd rfl n
  | 17, _, h => h
  | _ + 18, _, h => h
set_option maxRecDepth 100000 in
set_option maxHeartbeats 8000000 in
theorem mra_core {Q : Exit → Act → World → Prop} (W : World) (N0 B : Nat) (p : Tl) (s : Ts) (mb mm P x qq : Nat) (a1 : Option Addr) (n1 c1 : Nat) (A : List Int) (z : Int) (a0 : Act) (hs0 : a0.tmps.size = 126) (eY0 : a0.eval (.tmp 0) = .pointer (some ⟨p.b, 0, none⟩)) (eY3 : a0.eval (.tmp 3) = .map (some mm)) (eY10 : a0.eval (.tmp 10) = .pointer (some ⟨mb, 0, none⟩)) (eY12 : a0.eval (.tmp 12) = .int .i64 (P : Int)) (eY13 : a0.eval (.tmp 13) = .int .i64 (x : Int))
    (hN0 : N0 = W.heap.size) (h : To B W p s) (hM4 : W.cell? ⟨mb, 4, none⟩ = some (.slice a1 n1 c1)) (hMf : W.frozen? ⟨mb, 4, none⟩ = false) (hO : OwnL .i64 3 W (mb + 1) (.slice a1 n1 c1) A)
    (nb : ¬ obk a1 = some mb) (np : ∀ k, p.has k → ¬ obk a1 = some k) (nmm : ¬ obk a1 = some mm) (hlA : ∀ k, obk a1 = some k → ¬ N0 ≤ k) (nn : Nat) (f : Nat → Option Value) (hmm : FMap 3 (fun x : Nat => .int .i64 (x : Int)) okI W mm nn f) (hP : P < s.ls.length) (hE : (s.ln P).ed ≤ 1000000) (hx : x ≤ 1000) (hQ : ((s.ln P).ed : Int) + (x : Int) = (qq : Int)) (hQl : qq < s.ls.length) (hok : okI (s.ln qq).cl) (hf : f (s.ln qq).cl = some (.int .i64 z)) (hR : A.length ≤ 1000000) (hB : mb + 1 ≤ W.heap.size)
    (fin : ∀ a X, (a.tmps.size = a0.tmps.size ∧ a.defers = a0.defers ∧ ∀ t, (∀ j, j < 18 → [79, 80, 81, 82, 83, 84, 85, 86, 87, 88, 89, 90, 91, 92, 93, 94, 95, 96].getD j 0 ≠ t) → a.eval (.tmp t) = a0.eval (.tmp t)) → (fun Z => ∃ X a' c', Bx (fun k => obk a1 = some k) W X ∧ OwnL .i64 3 X (mb + 1) (.slice a' (A.length + 1) c') (A ++ [z]) ∧ (∀ j, obk a' = some j → obk a1 = some j ∨ W.heap.size ≤ j) ∧ Z = X.setCell ⟨mb, 4, none⟩ (.slice a' (A.length + 1) c')) X → Q .normal a X) :
    (Code.region 19 mraOps true).wp Try.prog Q a0 W := by
  refine wp_region_st (by kernel_rfl) a0 W 18 (fun i => [79, 80, 81, 82, 83, 84, 85, 86, 87, 88, 89, 90, 91, 92, 93, 94, 95, 96].getD i 0) (mraT N0 B p s mb mm P x qq a1 n1 c1 A z) 16 (MaB (obk a1) W) (fun a X => (a.tmps.size = a0.tmps.size ∧ a.defers = a0.defers ∧ ∀ t, (∀ j, j < 18 → [79, 80, 81, 82, 83, 84, 85, 86, 87, 88, 89, 90, 91, 92, 93, 94, 95, 96].getD j 0 ≠ t) → a.eval (.tmp t) = a0.eval (.tmp t)) ∧ (fun Z => ∃ X a' c', Bx (fun k => obk a1 = some k) W X ∧ OwnL .i64 3 X (mb + 1) (.slice a' (A.length + 1) c') (A ++ [z]) ∧ (∀ j, obk a' = some j → obk a1 = some j ∨ W.heap.size ≤ j) ∧ Z = X.setCell ⟨mb, 4, none⟩ (.slice a' (A.length + 1) c')) X) mra18 rfl rfl rfl (hall_of mra_ok) (hal2_of mra_ok) (MaB.start (obk a1) W) (by decide) (fun i hi => by rw [hs0]; exact (show ∀ i, i < 18 → [79, 80, 81, 82, 83, 84, 85, 86, 87, 88, 89, 90, 91, 92, 93, 94, 95, 96].getD i 0 < 126 by decide) i hi) (fun i o hi ho => hdS_of mra_ok i o hi ho) ?_ ?_ (fun a X hR => fin a X hR.1 hR.2)
  · intro j o hj ho a X b hbw E haft KK hKK
    have hsz : a.tmps.size = 126 := E.sz.trans hs0
    have fY0 : a.eval (.tmp 0) = .pointer (some ⟨p.b, 0, none⟩) := (E.ag 0 (by decide)).trans eY0
    have fY3 : a.eval (.tmp 3) = .map (some mm) := (E.ag 3 (by decide)).trans eY3
    have fY10 : a.eval (.tmp 10) = .pointer (some ⟨mb, 0, none⟩) := (E.ag 10 (by decide)).trans eY10
    have fY12 : a.eval (.tmp 12) = .int .i64 (P : Int) := (E.ag 12 (by decide)).trans eY12
    have fY13 : a.eval (.tmp 13) = .int .i64 (x : Int) := (E.ag 13 (by decide)).trans eY13
    have rd := E.rd
    have rM : X.cell? ⟨mb, 4, none⟩ = some (.slice a1 n1 c1) := rd.1.cell hM4 nb
    have hT : To B X p s := h.bx rd.1 np
    have r4 := hT.c4
    obtain ⟨-, -, -, l3, -⟩ := hT.lc hQl
    clear E fin
    rcases (by omega : j = 0 ∨ j = 1 ∨ j = 2 ∨ j = 3 ∨ j = 4 ∨ j = 5 ∨ j = 6 ∨ j = 7 ∨ j = 8 ∨ j = 9 ∨ j = 10 ∨ j = 11 ∨ j = 12 ∨ j = 13 ∨ j = 14 ∨ j = 15 ∨ j = 16 ∨ j = 17) with rfl | rfl | rfl | rfl | rfl | rfl | rfl | rfl | rfl | rfl | rfl | rfl | rfl | rfl | rfl | rfl | rfl | rfl
    · obtain rfl : mra0 = o := Option.some.inj ho
      exact wp_valueZ (v := .pointer (some ⟨mb, 4, none⟩)) (w' := X) (by simp [execOp, mra0, fY10, fldM4]) (hKK _ _ rd rfl (fun _ _ _ h => h))
    · obtain rfl : mra1 = o := Option.some.inj ho
      have d0 : a.eval (.tmp 79) = .pointer (some ⟨mb, 4, none⟩) := haft ⟨0, .data⟩ (by simp [mra1]) rfl
      exact wp_valueZ (v := .slice a1 n1 c1) (w' := X) (by simp [execOp, mra1, d0, ldSi rM]) (hKK _ _ rd rfl (fun _ _ _ h => h))
    · obtain rfl : mra2 = o := Option.some.inj ho
      exact wp_valueZ (v := .map (some mm)) (w' := X) (by simp [execOp, mra2, fY3]) (hKK _ _ rd rfl (fun _ _ _ h => h))
    · obtain rfl : mra3 = o := Option.some.inj ho
      exact wp_valueZ (v := .pointer (some ⟨p.b, 0, none⟩)) (w' := X) (by simp [execOp, mra3, fY0]) (hKK _ _ rd rfl (fun _ _ _ h => h))
    · obtain rfl : mra4 = o := Option.some.inj ho
      have d0 : a.eval (.tmp 82) = .pointer (some ⟨p.b, 0, none⟩) := haft ⟨3, .data⟩ (by simp [mra4]) rfl
      exact wp_valueZ (v := .pointer (some ⟨p.b, 0, none⟩)) (w' := X) (by simp [execOp, mra4, d0]) (hKK _ _ rd rfl (fun _ _ _ h => h))
    · obtain rfl : mra5 = o := Option.some.inj ho
      have d0 : a.eval (.tmp 83) = .pointer (some ⟨p.b, 0, none⟩) := haft ⟨4, .data⟩ (by simp [mra5]) rfl
      exact wp_valueZ (v := .pointer (some ⟨p.b, 4, none⟩)) (w' := X) (by simp [execOp, mra5, d0, fldT4]) (hKK _ _ rd rfl (fun _ _ _ h => h))
    · obtain rfl : mra6 = o := Option.some.inj ho
      have d0 : a.eval (.tmp 84) = .pointer (some ⟨p.b, 4, none⟩) := haft ⟨5, .data⟩ (by simp [mra6]) rfl
      exact wp_valueZ (v := .slice (some ⟨p.gl, 0, none⟩) s.ls.length p.cl) (w' := X) (by simp [execOp, mra6, d0, ldLns r4]) (hKK _ _ rd rfl (fun _ _ _ h => h))
    · obtain rfl : mra7 = o := Option.some.inj ho
      exact wp_valueZ (v := .pointer (some ⟨p.b, 0, none⟩)) (w' := X) (by simp [execOp, mra7, fY0]) (hKK _ _ rd rfl (fun _ _ _ h => h))
    · obtain rfl : mra8 = o := Option.some.inj ho
      exact wp_valueZ (v := .int .i64 (P : Int)) (w' := X) (by simp [execOp, mra8, fY12]) (hKK _ _ rd rfl (fun _ _ _ h => h))
    · obtain rfl : mra9 = o := Option.some.inj ho
      exact wp_valueZ (v := .int .i64 (x : Int)) (w' := X) (by simp [execOp, mra9, fY13]) (hKK _ _ rd rfl (fun _ _ _ h => h))
    · obtain rfl : mra10 = o := Option.some.inj ho
      have d0 : a.eval (.tmp 86) = .pointer (some ⟨p.b, 0, none⟩) := haft ⟨7, .data⟩ (by simp [mra10]) rfl
      have d1 : a.eval (.tmp 87) = .int .i64 (P : Int) := haft ⟨8, .data⟩ (by simp [mra10]) rfl
      have d2 : a.eval (.tmp 88) = .int .i64 (x : Int) := haft ⟨9, .data⟩ (by simp [mra10]) rfl
      refine wp_enterZ (run_call3Z rfl (enters_of Try.func49 (by kernel_rfl) rfl) d0 d1 d2) (edge_any hT (x : Int) hP (by omega) (by omega) (by omega)) ?_
      rintro e X' ⟨rfl, hX⟩
      subst hX
      exact ⟨_, rfl, hKK _ _ rd (by rw [hQ]; rfl) (fun _ _ _ h => h)⟩
    · obtain rfl : mra11 = o := Option.some.inj ho
      have d0 : a.eval (.tmp 85) = .slice (some ⟨p.gl, 0, none⟩) s.ls.length p.cl := haft ⟨6, .data⟩ (by simp [mra11]) rfl
      have d1 : a.eval (.tmp 89) = .int .i64 (qq : Int) := haft ⟨10, .data⟩ (by simp [mra11]) rfl
      exact wp_valueZ (v := .pointer (some ⟨p.gl, qq * 4, none⟩)) (w' := X) (by simp [execOp, mra11, d0, d1, idxLn hQl]) (hKK _ _ rd rfl (fun _ _ _ h => h))
    · obtain rfl : mra12 = o := Option.some.inj ho
      have d0 : a.eval (.tmp 90) = .pointer (some ⟨p.gl, qq * 4, none⟩) := haft ⟨11, .data⟩ (by simp [mra12]) rfl
      exact wp_valueZ (v := .pointer (some ⟨p.gl, qq * 4 + 3, none⟩)) (w' := X) (by simp [execOp, mra12, d0, fldL3]) (hKK _ _ rd rfl (fun _ _ _ h => h))
    · obtain rfl : mra13 = o := Option.some.inj ho
      have d0 : a.eval (.tmp 91) = .pointer (some ⟨p.gl, qq * 4 + 3, none⟩) := haft ⟨12, .data⟩ (by simp [mra13]) rfl
      exact wp_valueZ (v := .int .i64 ((s.ln qq).cl : Int)) (w' := X) (by simp [execOp, mra13, d0, ldIn l3]) (hKK _ _ rd rfl (fun _ _ _ h => h))
    · obtain rfl : mra14 = o := Option.some.inj ho
      have d0 : a.eval (.tmp 81) = .map (some mm) := haft ⟨2, .data⟩ (by simp [mra14]) rfl
      have d1 : a.eval (.tmp 92) = .int .i64 ((s.ln qq).cl : Int) := haft ⟨13, .data⟩ (by simp [mra14]) rfl
      have hl := FMap.look1 keysI (hmm.keep (rd.1.block mm hmm.lt nmm)) Try.underlying91 (Try.zeroValue3 X) (x := (s.ln qq).cl) hok
      rw [hf] at hl
      simp only [Option.getD_some] at hl
      exact wp_valueZ (v := .int .i64 z) (w' := X) (by simp [execOp, mra14, d0, d1, hl]) (hKK _ _ rd rfl (fun _ _ _ h => h))
    · obtain rfl : mra15 = o := Option.some.inj ho
      have d0 : a.eval (.tmp 93) = .int .i64 z := haft ⟨14, .data⟩ (by simp [mra15]) rfl
      exact wp_valueZ (v := .slice (some ⟨X.heap.size, 0, none⟩) 1 1) (w' := X.alloc (.cells #[.int .i64 z] 3)) (by simp [execOp, mra15, d0, run_litZ]) (hKK _ _ (rd.below (ballo _ _)) ⟨_, rfl, by rw [hN0]; exact rd.1.size, by simp⟩ (fun j u _ ht => mraT_below N0 B p s mb mm P x qq a1 n1 c1 A z (ballo _ _) ht))
    · obtain rfl : mra16 = o := Option.some.inj ho
      have d0 : a.eval (.tmp 80) = .slice a1 n1 c1 := haft ⟨1, .data⟩ (by simp [mra16]) rfl
      obtain ⟨N, d1, hN, hc⟩ := haft ⟨15, .data⟩ (by simp [mra16]) rfl
      have hO1 := OwnL.grown hO (rd.2 (hbw rfl))
      obtain ⟨a', c', X', hr, h1, h2, h3⟩ := push_z 22 (c0 := 1) hO1 hc hR (Nat.le_trans hB rd.1.size)
      exact wp_valueZ (run_pushV rfl d0 d1 hr) (hKK _ _ (rd.grown h2) ⟨a', c', rfl, h1, fun j e => (h3 j e).imp id fun e => by rw [hN0]; exact Nat.le_trans rd.1.size e⟩ (fun j u hj ht => mraT_gr N0 B p s mb mm P x qq a1 n1 c1 A z (fun N j x hN hx => h2.cell hx (fun q => hlA _ q.symm hN)) hj ht))
    · obtain rfl : mra17 = o := Option.some.inj ho
      exact wp_valueZ (v := .pointer (some ⟨mb, 4, none⟩)) (w' := X) (by simp [execOp, mra17, fY10, fldM4]) (hKK _ _ rd rfl (fun _ _ _ h => h))
  · intro a X b E KK hKK
    have rd := E.rd
    have rM : X.cell? ⟨mb, 4, none⟩ = some (.slice a1 n1 c1) := rd.1.cell hM4 nb
    have hT : To B X p s := h.bx rd.1 np
    have r4 := hT.c4
    obtain ⟨-, -, -, l3, -⟩ := hT.lc hQl
    have hR0 : a.tmps.size = a0.tmps.size ∧ a.defers = a0.defers ∧ ∀ t, (∀ j, j < 18 → [79, 80, 81, 82, 83, 84, 85, 86, 87, 88, 89, 90, 91, 92, 93, 94, 95, 96].getD j 0 ≠ t) → a.eval (.tmp t) = a0.eval (.tmp t) := ⟨E.sz, E.df, E.ag⟩
    have e0 : a.eval (.tmp 96) = .pointer (some ⟨mb, 4, none⟩) := E.vs 17 (by decide) trivial
    have e1 : (mraT N0 B p s mb mm P x qq a1 n1 c1 A z) 16 (a.eval (.tmp 95)) X := E.vs 16 (by decide) trivial
    clear E fin
    obtain ⟨a', c', e1', g1, g2⟩ := e1
    have hf' := rd.1.frz' (Nat.lt_of_succ_le hB) nb hMf
    have hln : (A ++ [z]).length = A.length + 1 := by simp
    rw [e1', hln] at g1
    refine wp_skipZ (w' := X.setCell ⟨mb, 4, none⟩ (.slice a' (A.length + 1) c')) (by simp only [execOp, mra18, e0, e1', hln]; simp [stSi rM hf']) ?_
    exact hKK _ _ ⟨hR0, X, a', c', rd.1, by have := g1; simpa using this, fun j e => by rw [← hN0]; exact g2 j e, by simp⟩
set_option maxRecDepth 100000 in
set_option maxHeartbeats 8000000 in
theorem mra_region {Q : Exit → Act → World → Prop} (W : World) (N0 B : Nat) (p : Tl) (s : Ts) (mb mm P x qq : Nat) (a1 : Option Addr) (n1 c1 : Nat) (A : List Int) (z : Int) (ds : List Deferred) (t1 t2 t4 t5 t6 t7 t8 t9 t11 t14 t15 t16 t17 t18 t19 t20 t21 t22 t23 t24 t25 t26 t27 t28 t29 t30 t31 t32 t33 t34 t35 t36 t37 t38 t39 t40 t41 t42 t43 t44 t45 t46 t47 t48 t49 t50 t51 t52 t53 t54 t55 t56 t57 t58 t59 t60 t61 t62 t63 t64 t65 t66 t67 t68 t69 t70 t71 t72 t73 t74 t75 t76 t77 t78 t79 t80 t81 t82 t83 t84 t85 t86 t87 t88 t89 t90 t91 t92 t93 t94 t95 t96 t97 t98 t99 t100 t101 t102 t103 t104 t105 t106 t107 t108 t109 t110 t111 t112 t113 t114 t115 t116 t117 t118 t119 t120 t121 t122 t123 t124 t125 : Value)
    (hN0 : N0 = W.heap.size) (h : To B W p s) (hM4 : W.cell? ⟨mb, 4, none⟩ = some (.slice a1 n1 c1)) (hMf : W.frozen? ⟨mb, 4, none⟩ = false) (hO : OwnL .i64 3 W (mb + 1) (.slice a1 n1 c1) A)
    (nb : ¬ obk a1 = some mb) (np : ∀ k, p.has k → ¬ obk a1 = some k) (nmm : ¬ obk a1 = some mm) (hlA : ∀ k, obk a1 = some k → ¬ N0 ≤ k) (nn : Nat) (f : Nat → Option Value) (hmm : FMap 3 (fun x : Nat => .int .i64 (x : Int)) okI W mm nn f) (hP : P < s.ls.length) (hE : (s.ln P).ed ≤ 1000000) (hx : x ≤ 1000) (hQ : ((s.ln P).ed : Int) + (x : Int) = (qq : Int)) (hQl : qq < s.ls.length) (hok : okI (s.ln qq).cl) (hf : f (s.ln qq).cl = some (.int .i64 z)) (hR : A.length ≤ 1000000) (hB : mb + 1 ≤ W.heap.size)
    (fin : ∀ X (u79 u80 u81 u82 u83 u84 u85 u86 u87 u88 u89 u90 u91 u92 u93 u94 u95 u96 : Value), (fun Z => ∃ X a' c', Bx (fun k => obk a1 = some k) W X ∧ OwnL .i64 3 X (mb + 1) (.slice a' (A.length + 1) c') (A ++ [z]) ∧ (∀ j, obk a' = some j → obk a1 = some j ∨ W.heap.size ≤ j) ∧ Z = X.setCell ⟨mb, 4, none⟩ (.slice a' (A.length + 1) c')) X → Q .normal ⟨#[.pointer (some ⟨p.b, 0, none⟩), t1, t2, .map (some mm), t4, t5, t6, t7, t8, t9, .pointer (some ⟨mb, 0, none⟩), t11, .int .i64 (P : Int), .int .i64 (x : Int), t14, t15, t16, t17, t18, t19, t20, t21, t22, t23, t24, t25, t26, t27, t28, t29, t30, t31, t32, t33, t34, t35, t36, t37, t38, t39, t40, t41, t42, t43, t44, t45, t46, t47, t48, t49, t50, t51, t52, t53, t54, t55, t56, t57, t58, t59, t60, t61, t62, t63, t64, t65, t66, t67, t68, t69, t70, t71, t72, t73, t74, t75, t76, t77, t78, u79, u80, u81, u82, u83, u84, u85, u86, u87, u88, u89, u90, u91, u92, u93, u94, u95, u96, t97, t98, t99, t100, t101, t102, t103, t104, t105, t106, t107, t108, t109, t110, t111, t112, t113, t114, t115, t116, t117, t118, t119, t120, t121, t122, t123, t124, t125], ds⟩ X) :
    (Code.region 19 mraOps true).wp Try.prog Q ⟨#[.pointer (some ⟨p.b, 0, none⟩), t1, t2, .map (some mm), t4, t5, t6, t7, t8, t9, .pointer (some ⟨mb, 0, none⟩), t11, .int .i64 (P : Int), .int .i64 (x : Int), t14, t15, t16, t17, t18, t19, t20, t21, t22, t23, t24, t25, t26, t27, t28, t29, t30, t31, t32, t33, t34, t35, t36, t37, t38, t39, t40, t41, t42, t43, t44, t45, t46, t47, t48, t49, t50, t51, t52, t53, t54, t55, t56, t57, t58, t59, t60, t61, t62, t63, t64, t65, t66, t67, t68, t69, t70, t71, t72, t73, t74, t75, t76, t77, t78, t79, t80, t81, t82, t83, t84, t85, t86, t87, t88, t89, t90, t91, t92, t93, t94, t95, t96, t97, t98, t99, t100, t101, t102, t103, t104, t105, t106, t107, t108, t109, t110, t111, t112, t113, t114, t115, t116, t117, t118, t119, t120, t121, t122, t123, t124, t125], ds⟩ W := by
  obtain ⟨a0, ha0⟩ : ∃ a0 : Act, a0 = ⟨#[.pointer (some ⟨p.b, 0, none⟩), t1, t2, .map (some mm), t4, t5, t6, t7, t8, t9, .pointer (some ⟨mb, 0, none⟩), t11, .int .i64 (P : Int), .int .i64 (x : Int), t14, t15, t16, t17, t18, t19, t20, t21, t22, t23, t24, t25, t26, t27, t28, t29, t30, t31, t32, t33, t34, t35, t36, t37, t38, t39, t40, t41, t42, t43, t44, t45, t46, t47, t48, t49, t50, t51, t52, t53, t54, t55, t56, t57, t58, t59, t60, t61, t62, t63, t64, t65, t66, t67, t68, t69, t70, t71, t72, t73, t74, t75, t76, t77, t78, t79, t80, t81, t82, t83, t84, t85, t86, t87, t88, t89, t90, t91, t92, t93, t94, t95, t96, t97, t98, t99, t100, t101, t102, t103, t104, t105, t106, t107, t108, t109, t110, t111, t112, t113, t114, t115, t116, t117, t118, t119, t120, t121, t122, t123, t124, t125], ds⟩ := ⟨_, rfl⟩
  have hs0 : a0.tmps.size = 126 := by rw [ha0]; rfl
  have hd0 : a0.defers = ds := by rw [ha0]
  have gY0 : a0.eval (.tmp 0) = .pointer (some ⟨p.b, 0, none⟩) := by rw [ha0]; rfl
  have gY1 : a0.eval (.tmp 1) = t1 := by rw [ha0]; rfl
  have gY2 : a0.eval (.tmp 2) = t2 := by rw [ha0]; rfl
  have gY3 : a0.eval (.tmp 3) = .map (some mm) := by rw [ha0]; rfl
  have gY4 : a0.eval (.tmp 4) = t4 := by rw [ha0]; rfl
  have gY5 : a0.eval (.tmp 5) = t5 := by rw [ha0]; rfl
  have gY6 : a0.eval (.tmp 6) = t6 := by rw [ha0]; rfl
  have gY7 : a0.eval (.tmp 7) = t7 := by rw [ha0]; rfl
  have gY8 : a0.eval (.tmp 8) = t8 := by rw [ha0]; rfl
  have gY9 : a0.eval (.tmp 9) = t9 := by rw [ha0]; rfl
  have gY10 : a0.eval (.tmp 10) = .pointer (some ⟨mb, 0, none⟩) := by rw [ha0]; rfl
  have gY11 : a0.eval (.tmp 11) = t11 := by rw [ha0]; rfl
  have gY12 : a0.eval (.tmp 12) = .int .i64 (P : Int) := by rw [ha0]; rfl
  have gY13 : a0.eval (.tmp 13) = .int .i64 (x : Int) := by rw [ha0]; rfl
  have gY14 : a0.eval (.tmp 14) = t14 := by rw [ha0]; rfl
  have gY15 : a0.eval (.tmp 15) = t15 := by rw [ha0]; rfl
  have gY16 : a0.eval (.tmp 16) = t16 := by rw [ha0]; rfl
  have gY17 : a0.eval (.tmp 17) = t17 := by rw [ha0]; rfl
  have gY18 : a0.eval (.tmp 18) = t18 := by rw [ha0]; rfl
  have gY19 : a0.eval (.tmp 19) = t19 := by rw [ha0]; rfl
  have gY20 : a0.eval (.tmp 20) = t20 := by rw [ha0]; rfl
  have gY21 : a0.eval (.tmp 21) = t21 := by rw [ha0]; rfl
  have gY22 : a0.eval (.tmp 22) = t22 := by rw [ha0]; rfl
  have gY23 : a0.eval (.tmp 23) = t23 := by rw [ha0]; rfl
  have gY24 : a0.eval (.tmp 24) = t24 := by rw [ha0]; rfl
  have gY25 : a0.eval (.tmp 25) = t25 := by rw [ha0]; rfl
  have gY26 : a0.eval (.tmp 26) = t26 := by rw [ha0]; rfl
  have gY27 : a0.eval (.tmp 27) = t27 := by rw [ha0]; rfl
  have gY28 : a0.eval (.tmp 28) = t28 := by rw [ha0]; rfl
  have gY29 : a0.eval (.tmp 29) = t29 := by rw [ha0]; rfl
  have gY30 : a0.eval (.tmp 30) = t30 := by rw [ha0]; rfl
  have gY31 : a0.eval (.tmp 31) = t31 := by rw [ha0]; rfl
  have gY32 : a0.eval (.tmp 32) = t32 := by rw [ha0]; rfl
  have gY33 : a0.eval (.tmp 33) = t33 := by rw [ha0]; rfl
  have gY34 : a0.eval (.tmp 34) = t34 := by rw [ha0]; rfl
  have gY35 : a0.eval (.tmp 35) = t35 := by rw [ha0]; rfl
  have gY36 : a0.eval (.tmp 36) = t36 := by rw [ha0]; rfl
  have gY37 : a0.eval (.tmp 37) = t37 := by rw [ha0]; rfl
  have gY38 : a0.eval (.tmp 38) = t38 := by rw [ha0]; rfl
  have gY39 : a0.eval (.tmp 39) = t39 := by rw [ha0]; rfl
  have gY40 : a0.eval (.tmp 40) = t40 := by rw [ha0]; rfl
  have gY41 : a0.eval (.tmp 41) = t41 := by rw [ha0]; rfl
  have gY42 : a0.eval (.tmp 42) = t42 := by rw [ha0]; rfl
  have gY43 : a0.eval (.tmp 43) = t43 := by rw [ha0]; rfl
  have gY44 : a0.eval (.tmp 44) = t44 := by rw [ha0]; rfl
  have gY45 : a0.eval (.tmp 45) = t45 := by rw [ha0]; rfl
  have gY46 : a0.eval (.tmp 46) = t46 := by rw [ha0]; rfl
  have gY47 : a0.eval (.tmp 47) = t47 := by rw [ha0]; rfl
  have gY48 : a0.eval (.tmp 48) = t48 := by rw [ha0]; rfl
  have gY49 : a0.eval (.tmp 49) = t49 := by rw [ha0]; rfl
  have gY50 : a0.eval (.tmp 50) = t50 := by rw [ha0]; rfl
  have gY51 : a0.eval (.tmp 51) = t51 := by rw [ha0]; rfl
  have gY52 : a0.eval (.tmp 52) = t52 := by rw [ha0]; rfl
  have gY53 : a0.eval (.tmp 53) = t53 := by rw [ha0]; rfl
  have gY54 : a0.eval (.tmp 54) = t54 := by rw [ha0]; rfl
  have gY55 : a0.eval (.tmp 55) = t55 := by rw [ha0]; rfl
  have gY56 : a0.eval (.tmp 56) = t56 := by rw [ha0]; rfl
  have gY57 : a0.eval (.tmp 57) = t57 := by rw [ha0]; rfl
  have gY58 : a0.eval (.tmp 58) = t58 := by rw [ha0]; rfl
  have gY59 : a0.eval (.tmp 59) = t59 := by rw [ha0]; rfl
  have gY60 : a0.eval (.tmp 60) = t60 := by rw [ha0]; rfl
  have gY61 : a0.eval (.tmp 61) = t61 := by rw [ha0]; rfl
  have gY62 : a0.eval (.tmp 62) = t62 := by rw [ha0]; rfl
  have gY63 : a0.eval (.tmp 63) = t63 := by rw [ha0]; rfl
  have gY64 : a0.eval (.tmp 64) = t64 := by rw [ha0]; rfl
  have gY65 : a0.eval (.tmp 65) = t65 := by rw [ha0]; rfl
  have gY66 : a0.eval (.tmp 66) = t66 := by rw [ha0]; rfl
  have gY67 : a0.eval (.tmp 67) = t67 := by rw [ha0]; rfl
  have gY68 : a0.eval (.tmp 68) = t68 := by rw [ha0]; rfl
  have gY69 : a0.eval (.tmp 69) = t69 := by rw [ha0]; rfl
  have gY70 : a0.eval (.tmp 70) = t70 := by rw [ha0]; rfl
  have gY71 : a0.eval (.tmp 71) = t71 := by rw [ha0]; rfl
  have gY72 : a0.eval (.tmp 72) = t72 := by rw [ha0]; rfl
  have gY73 : a0.eval (.tmp 73) = t73 := by rw [ha0]; rfl
  have gY74 : a0.eval (.tmp 74) = t74 := by rw [ha0]; rfl
  have gY75 : a0.eval (.tmp 75) = t75 := by rw [ha0]; rfl
  have gY76 : a0.eval (.tmp 76) = t76 := by rw [ha0]; rfl
  have gY77 : a0.eval (.tmp 77) = t77 := by rw [ha0]; rfl
  have gY78 : a0.eval (.tmp 78) = t78 := by rw [ha0]; rfl
  have gY97 : a0.eval (.tmp 97) = t97 := by rw [ha0]; rfl
  have gY98 : a0.eval (.tmp 98) = t98 := by rw [ha0]; rfl
  have gY99 : a0.eval (.tmp 99) = t99 := by rw [ha0]; rfl
  have gY100 : a0.eval (.tmp 100) = t100 := by rw [ha0]; rfl
  have gY101 : a0.eval (.tmp 101) = t101 := by rw [ha0]; rfl
  have gY102 : a0.eval (.tmp 102) = t102 := by rw [ha0]; rfl
  have gY103 : a0.eval (.tmp 103) = t103 := by rw [ha0]; rfl
  have gY104 : a0.eval (.tmp 104) = t104 := by rw [ha0]; rfl
  have gY105 : a0.eval (.tmp 105) = t105 := by rw [ha0]; rfl
  have gY106 : a0.eval (.tmp 106) = t106 := by rw [ha0]; rfl
  have gY107 : a0.eval (.tmp 107) = t107 := by rw [ha0]; rfl
  have gY108 : a0.eval (.tmp 108) = t108 := by rw [ha0]; rfl
  have gY109 : a0.eval (.tmp 109) = t109 := by rw [ha0]; rfl
  have gY110 : a0.eval (.tmp 110) = t110 := by rw [ha0]; rfl
  have gY111 : a0.eval (.tmp 111) = t111 := by rw [ha0]; rfl
  have gY112 : a0.eval (.tmp 112) = t112 := by rw [ha0]; rfl
  have gY113 : a0.eval (.tmp 113) = t113 := by rw [ha0]; rfl
  have gY114 : a0.eval (.tmp 114) = t114 := by rw [ha0]; rfl
  have gY115 : a0.eval (.tmp 115) = t115 := by rw [ha0]; rfl
  have gY116 : a0.eval (.tmp 116) = t116 := by rw [ha0]; rfl
  have gY117 : a0.eval (.tmp 117) = t117 := by rw [ha0]; rfl
  have gY118 : a0.eval (.tmp 118) = t118 := by rw [ha0]; rfl
  have gY119 : a0.eval (.tmp 119) = t119 := by rw [ha0]; rfl
  have gY120 : a0.eval (.tmp 120) = t120 := by rw [ha0]; rfl
  have gY121 : a0.eval (.tmp 121) = t121 := by rw [ha0]; rfl
  have gY122 : a0.eval (.tmp 122) = t122 := by rw [ha0]; rfl
  have gY123 : a0.eval (.tmp 123) = t123 := by rw [ha0]; rfl
  have gY124 : a0.eval (.tmp 124) = t124 := by rw [ha0]; rfl
  have gY125 : a0.eval (.tmp 125) = t125 := by rw [ha0]; rfl
  rw [← ha0]
  refine mra_core W N0 B p s mb mm P x qq a1 n1 c1 A z a0 hs0 gY0 gY3 gY10 gY12 gY13 hN0 h hM4 hMf hO nb np nmm hlA nn f hmm hP hE hx hQ hQl hok hf hR hB ?_
  clear ha0
  rintro a X ⟨es, ed, ag⟩ hF
  have hq := fin X (a.eval (.tmp 79)) (a.eval (.tmp 80)) (a.eval (.tmp 81)) (a.eval (.tmp 82)) (a.eval (.tmp 83)) (a.eval (.tmp 84)) (a.eval (.tmp 85)) (a.eval (.tmp 86)) (a.eval (.tmp 87)) (a.eval (.tmp 88)) (a.eval (.tmp 89)) (a.eval (.tmp 90)) (a.eval (.tmp 91)) (a.eval (.tmp 92)) (a.eval (.tmp 93)) (a.eval (.tmp 94)) (a.eval (.tmp 95)) (a.eval (.tmp 96)) hF
  have ea : a = ⟨#[a.eval (.tmp 0), a.eval (.tmp 1), a.eval (.tmp 2), a.eval (.tmp 3), a.eval (.tmp 4), a.eval (.tmp 5), a.eval (.tmp 6), a.eval (.tmp 7), a.eval (.tmp 8), a.eval (.tmp 9), a.eval (.tmp 10), a.eval (.tmp 11), a.eval (.tmp 12), a.eval (.tmp 13), a.eval (.tmp 14), a.eval (.tmp 15), a.eval (.tmp 16), a.eval (.tmp 17), a.eval (.tmp 18), a.eval (.tmp 19), a.eval (.tmp 20), a.eval (.tmp 21), a.eval (.tmp 22), a.eval (.tmp 23), a.eval (.tmp 24), a.eval (.tmp 25), a.eval (.tmp 26), a.eval (.tmp 27), a.eval (.tmp 28), a.eval (.tmp 29), a.eval (.tmp 30), a.eval (.tmp 31), a.eval (.tmp 32), a.eval (.tmp 33), a.eval (.tmp 34), a.eval (.tmp 35), a.eval (.tmp 36), a.eval (.tmp 37), a.eval (.tmp 38), a.eval (.tmp 39), a.eval (.tmp 40), a.eval (.tmp 41), a.eval (.tmp 42), a.eval (.tmp 43), a.eval (.tmp 44), a.eval (.tmp 45), a.eval (.tmp 46), a.eval (.tmp 47), a.eval (.tmp 48), a.eval (.tmp 49), a.eval (.tmp 50), a.eval (.tmp 51), a.eval (.tmp 52), a.eval (.tmp 53), a.eval (.tmp 54), a.eval (.tmp 55), a.eval (.tmp 56), a.eval (.tmp 57), a.eval (.tmp 58), a.eval (.tmp 59), a.eval (.tmp 60), a.eval (.tmp 61), a.eval (.tmp 62), a.eval (.tmp 63), a.eval (.tmp 64), a.eval (.tmp 65), a.eval (.tmp 66), a.eval (.tmp 67), a.eval (.tmp 68), a.eval (.tmp 69), a.eval (.tmp 70), a.eval (.tmp 71), a.eval (.tmp 72), a.eval (.tmp 73), a.eval (.tmp 74), a.eval (.tmp 75), a.eval (.tmp 76), a.eval (.tmp 77), a.eval (.tmp 78), a.eval (.tmp 79), a.eval (.tmp 80), a.eval (.tmp 81), a.eval (.tmp 82), a.eval (.tmp 83), a.eval (.tmp 84), a.eval (.tmp 85), a.eval (.tmp 86), a.eval (.tmp 87), a.eval (.tmp 88), a.eval (.tmp 89), a.eval (.tmp 90), a.eval (.tmp 91), a.eval (.tmp 92), a.eval (.tmp 93), a.eval (.tmp 94), a.eval (.tmp 95), a.eval (.tmp 96), a.eval (.tmp 97), a.eval (.tmp 98), a.eval (.tmp 99), a.eval (.tmp 100), a.eval (.tmp 101), a.eval (.tmp 102), a.eval (.tmp 103), a.eval (.tmp 104), a.eval (.tmp 105), a.eval (.tmp 106), a.eval (.tmp 107), a.eval (.tmp 108), a.eval (.tmp 109), a.eval (.tmp 110), a.eval (.tmp 111), a.eval (.tmp 112), a.eval (.tmp 113), a.eval (.tmp 114), a.eval (.tmp 115), a.eval (.tmp 116), a.eval (.tmp 117), a.eval (.tmp 118), a.eval (.tmp 119), a.eval (.tmp 120), a.eval (.tmp 121), a.eval (.tmp 122), a.eval (.tmp 123), a.eval (.tmp 124), a.eval (.tmp 125)], a.defers⟩ := act_eta a 126 (es.trans hs0)
  rw [ea, ed, hd0]
  have kY0 : a.eval (.tmp 0) = .pointer (some ⟨p.b, 0, none⟩) := (ag 0 (by decide)).trans gY0
  have kY1 : a.eval (.tmp 1) = t1 := (ag 1 (by decide)).trans gY1
  have kY2 : a.eval (.tmp 2) = t2 := (ag 2 (by decide)).trans gY2
  have kY3 : a.eval (.tmp 3) = .map (some mm) := (ag 3 (by decide)).trans gY3
  have kY4 : a.eval (.tmp 4) = t4 := (ag 4 (by decide)).trans gY4
  have kY5 : a.eval (.tmp 5) = t5 := (ag 5 (by decide)).trans gY5
  have kY6 : a.eval (.tmp 6) = t6 := (ag 6 (by decide)).trans gY6
  have kY7 : a.eval (.tmp 7) = t7 := (ag 7 (by decide)).trans gY7
  have kY8 : a.eval (.tmp 8) = t8 := (ag 8 (by decide)).trans gY8
  have kY9 : a.eval (.tmp 9) = t9 := (ag 9 (by decide)).trans gY9
  have kY10 : a.eval (.tmp 10) = .pointer (some ⟨mb, 0, none⟩) := (ag 10 (by decide)).trans gY10
  have kY11 : a.eval (.tmp 11) = t11 := (ag 11 (by decide)).trans gY11
  have kY12 : a.eval (.tmp 12) = .int .i64 (P : Int) := (ag 12 (by decide)).trans gY12
  have kY13 : a.eval (.tmp 13) = .int .i64 (x : Int) := (ag 13 (by decide)).trans gY13
  have kY14 : a.eval (.tmp 14) = t14 := (ag 14 (by decide)).trans gY14
  have kY15 : a.eval (.tmp 15) = t15 := (ag 15 (by decide)).trans gY15
  have kY16 : a.eval (.tmp 16) = t16 := (ag 16 (by decide)).trans gY16
  have kY17 : a.eval (.tmp 17) = t17 := (ag 17 (by decide)).trans gY17
  have kY18 : a.eval (.tmp 18) = t18 := (ag 18 (by decide)).trans gY18
  have kY19 : a.eval (.tmp 19) = t19 := (ag 19 (by decide)).trans gY19
  have kY20 : a.eval (.tmp 20) = t20 := (ag 20 (by decide)).trans gY20
  have kY21 : a.eval (.tmp 21) = t21 := (ag 21 (by decide)).trans gY21
  have kY22 : a.eval (.tmp 22) = t22 := (ag 22 (by decide)).trans gY22
  have kY23 : a.eval (.tmp 23) = t23 := (ag 23 (by decide)).trans gY23
  have kY24 : a.eval (.tmp 24) = t24 := (ag 24 (by decide)).trans gY24
  have kY25 : a.eval (.tmp 25) = t25 := (ag 25 (by decide)).trans gY25
  have kY26 : a.eval (.tmp 26) = t26 := (ag 26 (by decide)).trans gY26
  have kY27 : a.eval (.tmp 27) = t27 := (ag 27 (by decide)).trans gY27
  have kY28 : a.eval (.tmp 28) = t28 := (ag 28 (by decide)).trans gY28
  have kY29 : a.eval (.tmp 29) = t29 := (ag 29 (by decide)).trans gY29
  have kY30 : a.eval (.tmp 30) = t30 := (ag 30 (by decide)).trans gY30
  have kY31 : a.eval (.tmp 31) = t31 := (ag 31 (by decide)).trans gY31
  have kY32 : a.eval (.tmp 32) = t32 := (ag 32 (by decide)).trans gY32
  have kY33 : a.eval (.tmp 33) = t33 := (ag 33 (by decide)).trans gY33
  have kY34 : a.eval (.tmp 34) = t34 := (ag 34 (by decide)).trans gY34
  have kY35 : a.eval (.tmp 35) = t35 := (ag 35 (by decide)).trans gY35
  have kY36 : a.eval (.tmp 36) = t36 := (ag 36 (by decide)).trans gY36
  have kY37 : a.eval (.tmp 37) = t37 := (ag 37 (by decide)).trans gY37
  have kY38 : a.eval (.tmp 38) = t38 := (ag 38 (by decide)).trans gY38
  have kY39 : a.eval (.tmp 39) = t39 := (ag 39 (by decide)).trans gY39
  have kY40 : a.eval (.tmp 40) = t40 := (ag 40 (by decide)).trans gY40
  have kY41 : a.eval (.tmp 41) = t41 := (ag 41 (by decide)).trans gY41
  have kY42 : a.eval (.tmp 42) = t42 := (ag 42 (by decide)).trans gY42
  have kY43 : a.eval (.tmp 43) = t43 := (ag 43 (by decide)).trans gY43
  have kY44 : a.eval (.tmp 44) = t44 := (ag 44 (by decide)).trans gY44
  have kY45 : a.eval (.tmp 45) = t45 := (ag 45 (by decide)).trans gY45
  have kY46 : a.eval (.tmp 46) = t46 := (ag 46 (by decide)).trans gY46
  have kY47 : a.eval (.tmp 47) = t47 := (ag 47 (by decide)).trans gY47
  have kY48 : a.eval (.tmp 48) = t48 := (ag 48 (by decide)).trans gY48
  have kY49 : a.eval (.tmp 49) = t49 := (ag 49 (by decide)).trans gY49
  have kY50 : a.eval (.tmp 50) = t50 := (ag 50 (by decide)).trans gY50
  have kY51 : a.eval (.tmp 51) = t51 := (ag 51 (by decide)).trans gY51
  have kY52 : a.eval (.tmp 52) = t52 := (ag 52 (by decide)).trans gY52
  have kY53 : a.eval (.tmp 53) = t53 := (ag 53 (by decide)).trans gY53
  have kY54 : a.eval (.tmp 54) = t54 := (ag 54 (by decide)).trans gY54
  have kY55 : a.eval (.tmp 55) = t55 := (ag 55 (by decide)).trans gY55
  have kY56 : a.eval (.tmp 56) = t56 := (ag 56 (by decide)).trans gY56
  have kY57 : a.eval (.tmp 57) = t57 := (ag 57 (by decide)).trans gY57
  have kY58 : a.eval (.tmp 58) = t58 := (ag 58 (by decide)).trans gY58
  have kY59 : a.eval (.tmp 59) = t59 := (ag 59 (by decide)).trans gY59
  have kY60 : a.eval (.tmp 60) = t60 := (ag 60 (by decide)).trans gY60
  have kY61 : a.eval (.tmp 61) = t61 := (ag 61 (by decide)).trans gY61
  have kY62 : a.eval (.tmp 62) = t62 := (ag 62 (by decide)).trans gY62
  have kY63 : a.eval (.tmp 63) = t63 := (ag 63 (by decide)).trans gY63
  have kY64 : a.eval (.tmp 64) = t64 := (ag 64 (by decide)).trans gY64
  have kY65 : a.eval (.tmp 65) = t65 := (ag 65 (by decide)).trans gY65
  have kY66 : a.eval (.tmp 66) = t66 := (ag 66 (by decide)).trans gY66
  have kY67 : a.eval (.tmp 67) = t67 := (ag 67 (by decide)).trans gY67
  have kY68 : a.eval (.tmp 68) = t68 := (ag 68 (by decide)).trans gY68
  have kY69 : a.eval (.tmp 69) = t69 := (ag 69 (by decide)).trans gY69
  have kY70 : a.eval (.tmp 70) = t70 := (ag 70 (by decide)).trans gY70
  have kY71 : a.eval (.tmp 71) = t71 := (ag 71 (by decide)).trans gY71
  have kY72 : a.eval (.tmp 72) = t72 := (ag 72 (by decide)).trans gY72
  have kY73 : a.eval (.tmp 73) = t73 := (ag 73 (by decide)).trans gY73
  have kY74 : a.eval (.tmp 74) = t74 := (ag 74 (by decide)).trans gY74
  have kY75 : a.eval (.tmp 75) = t75 := (ag 75 (by decide)).trans gY75
  have kY76 : a.eval (.tmp 76) = t76 := (ag 76 (by decide)).trans gY76
  have kY77 : a.eval (.tmp 77) = t77 := (ag 77 (by decide)).trans gY77
  have kY78 : a.eval (.tmp 78) = t78 := (ag 78 (by decide)).trans gY78
  have kY97 : a.eval (.tmp 97) = t97 := (ag 97 (by decide)).trans gY97
  have kY98 : a.eval (.tmp 98) = t98 := (ag 98 (by decide)).trans gY98
  have kY99 : a.eval (.tmp 99) = t99 := (ag 99 (by decide)).trans gY99
  have kY100 : a.eval (.tmp 100) = t100 := (ag 100 (by decide)).trans gY100
  have kY101 : a.eval (.tmp 101) = t101 := (ag 101 (by decide)).trans gY101
  have kY102 : a.eval (.tmp 102) = t102 := (ag 102 (by decide)).trans gY102
  have kY103 : a.eval (.tmp 103) = t103 := (ag 103 (by decide)).trans gY103
  have kY104 : a.eval (.tmp 104) = t104 := (ag 104 (by decide)).trans gY104
  have kY105 : a.eval (.tmp 105) = t105 := (ag 105 (by decide)).trans gY105
  have kY106 : a.eval (.tmp 106) = t106 := (ag 106 (by decide)).trans gY106
  have kY107 : a.eval (.tmp 107) = t107 := (ag 107 (by decide)).trans gY107
  have kY108 : a.eval (.tmp 108) = t108 := (ag 108 (by decide)).trans gY108
  have kY109 : a.eval (.tmp 109) = t109 := (ag 109 (by decide)).trans gY109
  have kY110 : a.eval (.tmp 110) = t110 := (ag 110 (by decide)).trans gY110
  have kY111 : a.eval (.tmp 111) = t111 := (ag 111 (by decide)).trans gY111
  have kY112 : a.eval (.tmp 112) = t112 := (ag 112 (by decide)).trans gY112
  have kY113 : a.eval (.tmp 113) = t113 := (ag 113 (by decide)).trans gY113
  have kY114 : a.eval (.tmp 114) = t114 := (ag 114 (by decide)).trans gY114
  have kY115 : a.eval (.tmp 115) = t115 := (ag 115 (by decide)).trans gY115
  have kY116 : a.eval (.tmp 116) = t116 := (ag 116 (by decide)).trans gY116
  have kY117 : a.eval (.tmp 117) = t117 := (ag 117 (by decide)).trans gY117
  have kY118 : a.eval (.tmp 118) = t118 := (ag 118 (by decide)).trans gY118
  have kY119 : a.eval (.tmp 119) = t119 := (ag 119 (by decide)).trans gY119
  have kY120 : a.eval (.tmp 120) = t120 := (ag 120 (by decide)).trans gY120
  have kY121 : a.eval (.tmp 121) = t121 := (ag 121 (by decide)).trans gY121
  have kY122 : a.eval (.tmp 122) = t122 := (ag 122 (by decide)).trans gY122
  have kY123 : a.eval (.tmp 123) = t123 := (ag 123 (by decide)).trans gY123
  have kY124 : a.eval (.tmp 124) = t124 := (ag 124 (by decide)).trans gY124
  have kY125 : a.eval (.tmp 125) = t125 := (ag 125 (by decide)).trans gY125
  rw [kY0, kY1, kY2, kY3, kY4, kY5, kY6, kY7, kY8, kY9, kY10, kY11, kY12, kY13, kY14, kY15, kY16, kY17, kY18, kY19, kY20, kY21, kY22, kY23, kY24, kY25, kY26, kY27, kY28, kY29, kY30, kY31, kY32, kY33, kY34, kY35, kY36, kY37, kY38, kY39, kY40, kY41, kY42, kY43, kY44, kY45, kY46, kY47, kY48, kY49, kY50, kY51, kY52, kY53, kY54, kY55, kY56, kY57, kY58, kY59, kY60, kY61, kY62, kY63, kY64, kY65, kY66, kY67, kY68, kY69, kY70, kY71, kY72, kY73, kY74, kY75, kY76, kY77, kY78, kY97, kY98, kY99, kY100, kY101, kY102, kY103, kY104, kY105, kY106, kY107, kY108, kY109, kY110, kY111, kY112, kY113, kY114, kY115, kY116, kY117, kY118, kY119, kY120, kY121, kY122, kY123, kY124, kY125]
  exact hq
def mrb0 : Oper := { dst := some 116, op := Op.fieldAddr 27 (Operand.tmp 10) 5, type := 0, pos := "table.go:224", after := #[], guard := none }
def mrb1 : Oper := { dst := some 117, op := Op.load 22 (Operand.tmp 116), type := 22, pos := "table.go:224", after := #[{ on := 0, ground := Ground.data }], guard := none }
def mrb2 : Oper := { dst := some 118, op := Op.fieldAddr 73 (Operand.tmp 15) 0, type := 0, pos := "table.go:224", after := #[], guard := none }
def mrb3 : Oper := { dst := some 119, op := Op.load 47 (Operand.tmp 118), type := 47, pos := "table.go:224", after := #[{ on := 2, ground := Ground.data }], guard := none }
def mrb4 : Oper := { dst := some 120, op := Op.call { callee := Callee.value (Operand.func 23), args := #[Operand.tmp 119], argTypes := #[47] }, type := 22, pos := "table.go:224", after := #[{ on := 3, ground := Ground.data }], guard := none }
def mrb5 : Oper := { dst := some 121, op := Op.call { callee := Callee.builtin Builtin.append, args := #[Operand.tmp 117, Operand.tmp 120], argTypes := #[22, 22] }, type := 22, pos := "table.go:224", after := #[{ on := 1, ground := Ground.data }, { on := 4, ground := Ground.data }, { on := 4, ground := Ground.chain }], guard := none }
def mrb6 : Oper := { dst := some 122, op := Op.fieldAddr 27 (Operand.tmp 10) 5, type := 0, pos := "table.go:224", after := #[{ on := 0, ground := Ground.phase }, { on := 1, ground := Ground.phase }, { on := 2, ground := Ground.phase }, { on := 3, ground := Ground.phase }, { on := 4, ground := Ground.phase }, { on := 5, ground := Ground.phase }], guard := none }
def mrb7 : Oper := { dst := none, op := Op.store 22 (Operand.tmp 122) (Operand.tmp 121), type := 0, pos := "table.go:224", after := #[{ on := 6, ground := Ground.data }, { on := 5, ground := Ground.data }, { on := 5, ground := Ground.chain }, { on := 0, ground := Ground.phase }, { on := 1, ground := Ground.phase }, { on := 2, ground := Ground.phase }, { on := 3, ground := Ground.phase }, { on := 4, ground := Ground.phase }, { on := 5, ground := Ground.phase }], guard := none }
def mrbOps : Array Oper := #[mrb0, mrb1, mrb2, mrb3, mrb4, mrb5, mrb6, mrb7]

def mrbT (N0 mb bt : Nat) (a1 : Option Addr) (n1 c1 : Nat) (A : List Int) (z : Int) : Nat → Value → World → Prop
  | 0, v, _ => v = .pointer (some ⟨mb, 5, none⟩)
  | 1, v, _ => v = .slice a1 n1 c1
  | 2, v, _ => v = .pointer (some ⟨bt, 0, none⟩)
  | 3, v, _ => v = .string (sp [z])
  | 4, v, W => ∃ N c0, v = .slice (some ⟨N, 0, none⟩) 1 c0 ∧ N0 ≤ N ∧ W.cell? ⟨N, 0, none⟩ = some (.int .i64 z)
  | 5, v, W => ∃ a' c', v = .slice a' (A ++ [z]).length c' ∧ OwnL .i64 3 W (mb + 1) v (A ++ [z]) ∧ ∀ j, obk a' = some j → obk a1 = some j ∨ N0 ≤ j
  | 6, v, _ => v = .pointer (some ⟨mb, 5, none⟩)
  | _, _, _ => True
set_option maxRecDepth 100000 in
set_option maxHeartbeats 1000000 in
theorem mrb_ok : okS2 mrbOps [116, 117, 118, 119, 120, 121, 122] = true := by kernel_rfl
theorem mrbT_below (N0 mb bt : Nat) (a1 : Option Addr) (n1 c1 : Nat) (A : List Int) (z : Int) {v : Value} {W W' : World} (hb : Below W.heap.size W W') : ∀ {i : Nat}, mrbT N0 mb bt a1 n1 c1 A z i v W → mrbT N0 mb bt a1 n1 c1 A z i v W'
  | 0, h => h
  | 1, h => h
  | 2, h => h
  | 3, h => h
  | 4, ⟨N, c0, e, h1, h2⟩ => ⟨N, c0, e, h1, (hb.cell (World.block_lt_of_cell? W _ h2)).trans h2⟩
  | 5, ⟨a', c', e, h1, h2⟩ => ⟨a', c', e, OwnL.grown h1 hb, h2⟩
  | 6, h => h
  | _ + 7, h => h
theorem mrbT_gr (N0 mb bt : Nat) (a1 : Option Addr) (n1 c1 : Nat) (A : List Int) (z : Int) {W W' : World} (hs : ∀ N j x, N0 ≤ N → W.cell? ⟨N, j, none⟩ = some x → W'.cell? ⟨N, j, none⟩ = some x) {v : Value} : ∀ {i : Nat}, i ≠ 5 → mrbT N0 mb bt a1 n1 c1 A z i v W → mrbT N0 mb bt a1 n1 c1 A z i v W'
  | 0, _, h => h
  | 1, _, h => h
  | 2, _, h => h
  | 3, _, h => h
  | 4, _, ⟨N, c0, e, h1, h2⟩ => ⟨N, c0, e, h1, hs N 0 _ h1 h2⟩
  | 5, n, _ => absurd rfl n
  | 6, _, h => h
  | _ + 7, _, h => h
set_option maxRecDepth 100000 in
set_option maxHeartbeats 8000000 in
theorem mrb_core {Q : Exit → Act → World → Prop} (W : World) (N0 mb bt : Nat) (a1 : Option Addr) (n1 c1 : Nat) (A : List Int) (z : Int) (a0 : Act) (hs0 : a0.tmps.size = 126) (eY10 : a0.eval (.tmp 10) = .pointer (some ⟨mb, 0, none⟩)) (eY15 : a0.eval (.tmp 15) = .pointer (some ⟨bt, 0, none⟩))
    (hN0 : N0 = W.heap.size) (hM4 : W.cell? ⟨mb, 5, none⟩ = some (.slice a1 n1 c1)) (hMf : W.frozen? ⟨mb, 5, none⟩ = false) (hO : OwnL .i64 3 W (mb + 1) (.slice a1 n1 c1) A) (hT0 : W.cell? ⟨bt, 0, none⟩ = some (.string (sp [z]))) (hz : Sb [z])
    (nb : ¬ obk a1 = some mb) (nbt : ¬ obk a1 = some bt) (hlA : ∀ k, obk a1 = some k → ¬ N0 ≤ k) (hR : A.length ≤ 1000000) (hB : mb + 1 ≤ W.heap.size)
    (fin : ∀ a X, (a.tmps.size = a0.tmps.size ∧ a.defers = a0.defers ∧ ∀ t, (∀ j, j < 7 → [116, 117, 118, 119, 120, 121, 122].getD j 0 ≠ t) → a.eval (.tmp t) = a0.eval (.tmp t)) → (fun Z => ∃ X a' c', Bx (fun k => obk a1 = some k) W X ∧ OwnL .i64 3 X (mb + 1) (.slice a' (A.length + 1) c') (A ++ [z]) ∧ (∀ j, obk a' = some j → obk a1 = some j ∨ W.heap.size ≤ j) ∧ Z = X.setCell ⟨mb, 5, none⟩ (.slice a' (A.length + 1) c')) X → Q .normal a X) :
    (Code.region 24 mrbOps true).wp Try.prog Q a0 W := by
  refine wp_region_st (by kernel_rfl) a0 W 7 (fun i => [116, 117, 118, 119, 120, 121, 122].getD i 0) (mrbT N0 mb bt a1 n1 c1 A z) 5 (MaB (obk a1) W) (fun a X => (a.tmps.size = a0.tmps.size ∧ a.defers = a0.defers ∧ ∀ t, (∀ j, j < 7 → [116, 117, 118, 119, 120, 121, 122].getD j 0 ≠ t) → a.eval (.tmp t) = a0.eval (.tmp t)) ∧ (fun Z => ∃ X a' c', Bx (fun k => obk a1 = some k) W X ∧ OwnL .i64 3 X (mb + 1) (.slice a' (A.length + 1) c') (A ++ [z]) ∧ (∀ j, obk a' = some j → obk a1 = some j ∨ W.heap.size ≤ j) ∧ Z = X.setCell ⟨mb, 5, none⟩ (.slice a' (A.length + 1) c')) X) mrb7 rfl rfl rfl (hall_of mrb_ok) (hal2_of mrb_ok) (MaB.start (obk a1) W) (by decide) (fun i hi => by rw [hs0]; exact (show ∀ i, i < 7 → [116, 117, 118, 119, 120, 121, 122].getD i 0 < 126 by decide) i hi) (fun i o hi ho => hdS_of mrb_ok i o hi ho) ?_ ?_ (fun a X hR => fin a X hR.1 hR.2)
  · intro j o hj ho a X b hbw E haft KK hKK
    have hsz : a.tmps.size = 126 := E.sz.trans hs0
    have fY10 : a.eval (.tmp 10) = .pointer (some ⟨mb, 0, none⟩) := (E.ag 10 (by decide)).trans eY10
    have fY15 : a.eval (.tmp 15) = .pointer (some ⟨bt, 0, none⟩) := (E.ag 15 (by decide)).trans eY15
    have rd := E.rd
    have rM : X.cell? ⟨mb, 5, none⟩ = some (.slice a1 n1 c1) := rd.1.cell hM4 nb
    have rT : X.cell? ⟨bt, 0, none⟩ = some (.string (sp [z])) := rd.1.cell hT0 nbt
    clear E fin
    rcases (by omega : j = 0 ∨ j = 1 ∨ j = 2 ∨ j = 3 ∨ j = 4 ∨ j = 5 ∨ j = 6) with rfl | rfl | rfl | rfl | rfl | rfl | rfl
    · obtain rfl : mrb0 = o := Option.some.inj ho
      exact wp_valueZ (v := .pointer (some ⟨mb, 5, none⟩)) (w' := X) (by simp [execOp, mrb0, fY10, fldM5]) (hKK _ _ rd rfl (fun _ _ _ h => h))
    · obtain rfl : mrb1 = o := Option.some.inj ho
      have d0 : a.eval (.tmp 116) = .pointer (some ⟨mb, 5, none⟩) := haft ⟨0, .data⟩ (by simp [mrb1]) rfl
      exact wp_valueZ (v := .slice a1 n1 c1) (w' := X) (by simp [execOp, mrb1, d0, ldSi rM]) (hKK _ _ rd rfl (fun _ _ _ h => h))
    · obtain rfl : mrb2 = o := Option.some.inj ho
      exact wp_valueZ (v := .pointer (some ⟨bt, 0, none⟩)) (w' := X) (by simp [execOp, mrb2, fY15, fldC0]) (hKK _ _ rd rfl (fun _ _ _ h => h))
    · obtain rfl : mrb3 = o := Option.some.inj ho
      have d0 : a.eval (.tmp 118) = .pointer (some ⟨bt, 0, none⟩) := haft ⟨2, .data⟩ (by simp [mrb3]) rfl
      exact wp_valueZ (v := .string (sp [z])) (w' := X) (by simp [execOp, mrb3, d0, ldSp rT]) (hKK _ _ rd rfl (fun _ _ _ h => h))
    · obtain rfl : mrb4 = o := Option.some.inj ho
      have d0 : a.eval (.tmp 119) = .string (sp [z]) := haft ⟨3, .data⟩ (by simp [mrb4]) rfl
      refine wp_enterZ (run_call1 rfl (enters_of Try.func23 (by kernel_rfl) rfl) d0) (spnum_any [z] X hz (by simp)) ?_
      rintro e X' ⟨v, rfl, hv, hb⟩
      obtain ⟨g, cap, e2, -, -, hg, -, hc0, -⟩ := hv.pos (by simp)
      exact ⟨_, rfl, hKK _ _ (rd.below hb) ⟨g, cap, e2, by rw [hN0]; exact Nat.le_trans rd.1.size hg, hc0 0 (by simp)⟩ (fun j u _ ht => mrbT_below N0 mb bt a1 n1 c1 A z hb ht)⟩
    · obtain rfl : mrb5 = o := Option.some.inj ho
      have d0 : a.eval (.tmp 117) = .slice a1 n1 c1 := haft ⟨1, .data⟩ (by simp [mrb5]) rfl
      obtain ⟨N, c0, d1, hN, hc⟩ := haft ⟨4, .data⟩ (by simp [mrb5]) rfl
      have hO1 := OwnL.grown hO (rd.2 (hbw rfl))
      obtain ⟨a', c', X', hr, h1, h2, h3⟩ := push_z 22 (c0 := c0) hO1 hc hR (Nat.le_trans hB rd.1.size)
      exact wp_valueZ (run_pushV rfl d0 d1 hr) (hKK _ _ (rd.grown h2) ⟨a', c', rfl, h1, fun j e => (h3 j e).imp id fun e => by rw [hN0]; exact Nat.le_trans rd.1.size e⟩ (fun j u hj ht => mrbT_gr N0 mb bt a1 n1 c1 A z (fun N j x hN hx => h2.cell hx (fun q => hlA _ q.symm hN)) hj ht))
    · obtain rfl : mrb6 = o := Option.some.inj ho
      exact wp_valueZ (v := .pointer (some ⟨mb, 5, none⟩)) (w' := X) (by simp [execOp, mrb6, fY10, fldM5]) (hKK _ _ rd rfl (fun _ _ _ h => h))
  · intro a X b E KK hKK
    have rd := E.rd
    have rM : X.cell? ⟨mb, 5, none⟩ = some (.slice a1 n1 c1) := rd.1.cell hM4 nb
    have rT : X.cell? ⟨bt, 0, none⟩ = some (.string (sp [z])) := rd.1.cell hT0 nbt
    have hR0 : a.tmps.size = a0.tmps.size ∧ a.defers = a0.defers ∧ ∀ t, (∀ j, j < 7 → [116, 117, 118, 119, 120, 121, 122].getD j 0 ≠ t) → a.eval (.tmp t) = a0.eval (.tmp t) := ⟨E.sz, E.df, E.ag⟩
    have e0 : a.eval (.tmp 122) = .pointer (some ⟨mb, 5, none⟩) := E.vs 6 (by decide) trivial
    have e1 : (mrbT N0 mb bt a1 n1 c1 A z) 5 (a.eval (.tmp 121)) X := E.vs 5 (by decide) trivial
    clear E fin
    obtain ⟨a', c', e1', g1, g2⟩ := e1
    have hf' := rd.1.frz' (Nat.lt_of_succ_le hB) nb hMf
    have hln : (A ++ [z]).length = A.length + 1 := by simp
    rw [e1', hln] at g1
    refine wp_skipZ (w' := X.setCell ⟨mb, 5, none⟩ (.slice a' (A.length + 1) c')) (by simp only [execOp, mrb7, e0, e1', hln]; simp [stSi rM hf']) ?_
    exact hKK _ _ ⟨hR0, X, a', c', rd.1, by have := g1; simpa using this, fun j e => by rw [← hN0]; exact g2 j e, by simp⟩
set_option maxRecDepth 100000 in
set_option maxHeartbeats 8000000 in
theorem mrb_region {Q : Exit → Act → World → Prop} (W : World) (N0 mb bt : Nat) (a1 : Option Addr) (n1 c1 : Nat) (A : List Int) (z : Int) (ds : List Deferred) (t0 t1 t2 t3 t4 t5 t6 t7 t8 t9 t11 t12 t13 t14 t16 t17 t18 t19 t20 t21 t22 t23 t24 t25 t26 t27 t28 t29 t30 t31 t32 t33 t34 t35 t36 t37 t38 t39 t40 t41 t42 t43 t44 t45 t46 t47 t48 t49 t50 t51 t52 t53 t54 t55 t56 t57 t58 t59 t60 t61 t62 t63 t64 t65 t66 t67 t68 t69 t70 t71 t72 t73 t74 t75 t76 t77 t78 t79 t80 t81 t82 t83 t84 t85 t86 t87 t88 t89 t90 t91 t92 t93 t94 t95 t96 t97 t98 t99 t100 t101 t102 t103 t104 t105 t106 t107 t108 t109 t110 t111 t112 t113 t114 t115 t116 t117 t118 t119 t120 t121 t122 t123 t124 t125 : Value)
    (hN0 : N0 = W.heap.size) (hM4 : W.cell? ⟨mb, 5, none⟩ = some (.slice a1 n1 c1)) (hMf : W.frozen? ⟨mb, 5, none⟩ = false) (hO : OwnL .i64 3 W (mb + 1) (.slice a1 n1 c1) A) (hT0 : W.cell? ⟨bt, 0, none⟩ = some (.string (sp [z]))) (hz : Sb [z])
    (nb : ¬ obk a1 = some mb) (nbt : ¬ obk a1 = some bt) (hlA : ∀ k, obk a1 = some k → ¬ N0 ≤ k) (hR : A.length ≤ 1000000) (hB : mb + 1 ≤ W.heap.size)
    (fin : ∀ X (u116 u117 u118 u119 u120 u121 u122 : Value), (fun Z => ∃ X a' c', Bx (fun k => obk a1 = some k) W X ∧ OwnL .i64 3 X (mb + 1) (.slice a' (A.length + 1) c') (A ++ [z]) ∧ (∀ j, obk a' = some j → obk a1 = some j ∨ W.heap.size ≤ j) ∧ Z = X.setCell ⟨mb, 5, none⟩ (.slice a' (A.length + 1) c')) X → Q .normal ⟨#[t0, t1, t2, t3, t4, t5, t6, t7, t8, t9, .pointer (some ⟨mb, 0, none⟩), t11, t12, t13, t14, .pointer (some ⟨bt, 0, none⟩), t16, t17, t18, t19, t20, t21, t22, t23, t24, t25, t26, t27, t28, t29, t30, t31, t32, t33, t34, t35, t36, t37, t38, t39, t40, t41, t42, t43, t44, t45, t46, t47, t48, t49, t50, t51, t52, t53, t54, t55, t56, t57, t58, t59, t60, t61, t62, t63, t64, t65, t66, t67, t68, t69, t70, t71, t72, t73, t74, t75, t76, t77, t78, t79, t80, t81, t82, t83, t84, t85, t86, t87, t88, t89, t90, t91, t92, t93, t94, t95, t96, t97, t98, t99, t100, t101, t102, t103, t104, t105, t106, t107, t108, t109, t110, t111, t112, t113, t114, t115, u116, u117, u118, u119, u120, u121, u122, t123, t124, t125], ds⟩ X) :
    (Code.region 24 mrbOps true).wp Try.prog Q ⟨#[t0, t1, t2, t3, t4, t5, t6, t7, t8, t9, .pointer (some ⟨mb, 0, none⟩), t11, t12, t13, t14, .pointer (some ⟨bt, 0, none⟩), t16, t17, t18, t19, t20, t21, t22, t23, t24, t25, t26, t27, t28, t29, t30, t31, t32, t33, t34, t35, t36, t37, t38, t39, t40, t41, t42, t43, t44, t45, t46, t47, t48, t49, t50, t51, t52, t53, t54, t55, t56, t57, t58, t59, t60, t61, t62, t63, t64, t65, t66, t67, t68, t69, t70, t71, t72, t73, t74, t75, t76, t77, t78, t79, t80, t81, t82, t83, t84, t85, t86, t87, t88, t89, t90, t91, t92, t93, t94, t95, t96, t97, t98, t99, t100, t101, t102, t103, t104, t105, t106, t107, t108, t109, t110, t111, t112, t113, t114, t115, t116, t117, t118, t119, t120, t121, t122, t123, t124, t125], ds⟩ W := by
  obtain ⟨a0, ha0⟩ : ∃ a0 : Act, a0 = ⟨#[t0, t1, t2, t3, t4, t5, t6, t7, t8, t9, .pointer (some ⟨mb, 0, none⟩), t11, t12, t13, t14, .pointer (some ⟨bt, 0, none⟩), t16, t17, t18, t19, t20, t21, t22, t23, t24, t25, t26, t27, t28, t29, t30, t31, t32, t33, t34, t35, t36, t37, t38, t39, t40, t41, t42, t43, t44, t45, t46, t47, t48, t49, t50, t51, t52, t53, t54, t55, t56, t57, t58, t59, t60, t61, t62, t63, t64, t65, t66, t67, t68, t69, t70, t71, t72, t73, t74, t75, t76, t77, t78, t79, t80, t81, t82, t83, t84, t85, t86, t87, t88, t89, t90, t91, t92, t93, t94, t95, t96, t97, t98, t99, t100, t101, t102, t103, t104, t105, t106, t107, t108, t109, t110, t111, t112, t113, t114, t115, t116, t117, t118, t119, t120, t121, t122, t123, t124, t125], ds⟩ := ⟨_, rfl⟩
  have hs0 : a0.tmps.size = 126 := by rw [ha0]; rfl
  have hd0 : a0.defers = ds := by rw [ha0]
  have gY0 : a0.eval (.tmp 0) = t0 := by rw [ha0]; rfl
  have gY1 : a0.eval (.tmp 1) = t1 := by rw [ha0]; rfl
  have gY2 : a0.eval (.tmp 2) = t2 := by rw [ha0]; rfl
  have gY3 : a0.eval (.tmp 3) = t3 := by rw [ha0]; rfl
  have gY4 : a0.eval (.tmp 4) = t4 := by rw [ha0]; rfl
  have gY5 : a0.eval (.tmp 5) = t5 := by rw [ha0]; rfl
  have gY6 : a0.eval (.tmp 6) = t6 := by rw [ha0]; rfl
  have gY7 : a0.eval (.tmp 7) = t7 := by rw [ha0]; rfl
  have gY8 : a0.eval (.tmp 8) = t8 := by rw [ha0]; rfl
  have gY9 : a0.eval (.tmp 9) = t9 := by rw [ha0]; rfl
  have gY10 : a0.eval (.tmp 10) = .pointer (some ⟨mb, 0, none⟩) := by rw [ha0]; rfl
  have gY11 : a0.eval (.tmp 11) = t11 := by rw [ha0]; rfl
  have gY12 : a0.eval (.tmp 12) = t12 := by rw [ha0]; rfl
  have gY13 : a0.eval (.tmp 13) = t13 := by rw [ha0]; rfl
  have gY14 : a0.eval (.tmp 14) = t14 := by rw [ha0]; rfl
  have gY15 : a0.eval (.tmp 15) = .pointer (some ⟨bt, 0, none⟩) := by rw [ha0]; rfl
  have gY16 : a0.eval (.tmp 16) = t16 := by rw [ha0]; rfl
  have gY17 : a0.eval (.tmp 17) = t17 := by rw [ha0]; rfl
  have gY18 : a0.eval (.tmp 18) = t18 := by rw [ha0]; rfl
  have gY19 : a0.eval (.tmp 19) = t19 := by rw [ha0]; rfl
  have gY20 : a0.eval (.tmp 20) = t20 := by rw [ha0]; rfl
  have gY21 : a0.eval (.tmp 21) = t21 := by rw [ha0]; rfl
  have gY22 : a0.eval (.tmp 22) = t22 := by rw [ha0]; rfl
  have gY23 : a0.eval (.tmp 23) = t23 := by rw [ha0]; rfl
  have gY24 : a0.eval (.tmp 24) = t24 := by rw [ha0]; rfl
  have gY25 : a0.eval (.tmp 25) = t25 := by rw [ha0]; rfl
  have gY26 : a0.eval (.tmp 26) = t26 := by rw [ha0]; rfl
  have gY27 : a0.eval (.tmp 27) = t27 := by rw [ha0]; rfl
  have gY28 : a0.eval (.tmp 28) = t28 := by rw [ha0]; rfl
  have gY29 : a0.eval (.tmp 29) = t29 := by rw [ha0]; rfl
  have gY30 : a0.eval (.tmp 30) = t30 := by rw [ha0]; rfl
  have gY31 : a0.eval (.tmp 31) = t31 := by rw [ha0]; rfl
  have gY32 : a0.eval (.tmp 32) = t32 := by rw [ha0]; rfl
  have gY33 : a0.eval (.tmp 33) = t33 := by rw [ha0]; rfl
  have gY34 : a0.eval (.tmp 34) = t34 := by rw [ha0]; rfl
  have gY35 : a0.eval (.tmp 35) = t35 := by rw [ha0]; rfl
  have gY36 : a0.eval (.tmp 36) = t36 := by rw [ha0]; rfl
  have gY37 : a0.eval (.tmp 37) = t37 := by rw [ha0]; rfl
  have gY38 : a0.eval (.tmp 38) = t38 := by rw [ha0]; rfl
  have gY39 : a0.eval (.tmp 39) = t39 := by rw [ha0]; rfl
  have gY40 : a0.eval (.tmp 40) = t40 := by rw [ha0]; rfl
  have gY41 : a0.eval (.tmp 41) = t41 := by rw [ha0]; rfl
  have gY42 : a0.eval (.tmp 42) = t42 := by rw [ha0]; rfl
  have gY43 : a0.eval (.tmp 43) = t43 := by rw [ha0]; rfl
  have gY44 : a0.eval (.tmp 44) = t44 := by rw [ha0]; rfl
  have gY45 : a0.eval (.tmp 45) = t45 := by rw [ha0]; rfl
  have gY46 : a0.eval (.tmp 46) = t46 := by rw [ha0]; rfl
  have gY47 : a0.eval (.tmp 47) = t47 := by rw [ha0]; rfl
  have gY48 : a0.eval (.tmp 48) = t48 := by rw [ha0]; rfl
  have gY49 : a0.eval (.tmp 49) = t49 := by rw [ha0]; rfl
  have gY50 : a0.eval (.tmp 50) = t50 := by rw [ha0]; rfl
  have gY51 : a0.eval (.tmp 51) = t51 := by rw [ha0]; rfl
  have gY52 : a0.eval (.tmp 52) = t52 := by rw [ha0]; rfl
  have gY53 : a0.eval (.tmp 53) = t53 := by rw [ha0]; rfl
  have gY54 : a0.eval (.tmp 54) = t54 := by rw [ha0]; rfl
  have gY55 : a0.eval (.tmp 55) = t55 := by rw [ha0]; rfl
  have gY56 : a0.eval (.tmp 56) = t56 := by rw [ha0]; rfl
  have gY57 : a0.eval (.tmp 57) = t57 := by rw [ha0]; rfl
  have gY58 : a0.eval (.tmp 58) = t58 := by rw [ha0]; rfl
  have gY59 : a0.eval (.tmp 59) = t59 := by rw [ha0]; rfl
  have gY60 : a0.eval (.tmp 60) = t60 := by rw [ha0]; rfl
  have gY61 : a0.eval (.tmp 61) = t61 := by rw [ha0]; rfl
  have gY62 : a0.eval (.tmp 62) = t62 := by rw [ha0]; rfl
  have gY63 : a0.eval (.tmp 63) = t63 := by rw [ha0]; rfl
  have gY64 : a0.eval (.tmp 64) = t64 := by rw [ha0]; rfl
  have gY65 : a0.eval (.tmp 65) = t65 := by rw [ha0]; rfl
  have gY66 : a0.eval (.tmp 66) = t66 := by rw [ha0]; rfl
  have gY67 : a0.eval (.tmp 67) = t67 := by rw [ha0]; rfl
  have gY68 : a0.eval (.tmp 68) = t68 := by rw [ha0]; rfl
  have gY69 : a0.eval (.tmp 69) = t69 := by rw [ha0]; rfl
  have gY70 : a0.eval (.tmp 70) = t70 := by rw [ha0]; rfl
  have gY71 : a0.eval (.tmp 71) = t71 := by rw [ha0]; rfl
  have gY72 : a0.eval (.tmp 72) = t72 := by rw [ha0]; rfl
  have gY73 : a0.eval (.tmp 73) = t73 := by rw [ha0]; rfl
  have gY74 : a0.eval (.tmp 74) = t74 := by rw [ha0]; rfl
  have gY75 : a0.eval (.tmp 75) = t75 := by rw [ha0]; rfl
  have gY76 : a0.eval (.tmp 76) = t76 := by rw [ha0]; rfl
  have gY77 : a0.eval (.tmp 77) = t77 := by rw [ha0]; rfl
  have gY78 : a0.eval (.tmp 78) = t78 := by rw [ha0]; rfl
  have gY79 : a0.eval (.tmp 79) = t79 := by rw [ha0]; rfl
  have gY80 : a0.eval (.tmp 80) = t80 := by rw [ha0]; rfl
  have gY81 : a0.eval (.tmp 81) = t81 := by rw [ha0]; rfl
  have gY82 : a0.eval (.tmp 82) = t82 := by rw [ha0]; rfl
  have gY83 : a0.eval (.tmp 83) = t83 := by rw [ha0]; rfl
  have gY84 : a0.eval (.tmp 84) = t84 := by rw [ha0]; rfl
  have gY85 : a0.eval (.tmp 85) = t85 := by rw [ha0]; rfl
  have gY86 : a0.eval (.tmp 86) = t86 := by rw [ha0]; rfl
  have gY87 : a0.eval (.tmp 87) = t87 := by rw [ha0]; rfl
  have gY88 : a0.eval (.tmp 88) = t88 := by rw [ha0]; rfl
  have gY89 : a0.eval (.tmp 89) = t89 := by rw [ha0]; rfl
  have gY90 : a0.eval (.tmp 90) = t90 := by rw [ha0]; rfl
  have gY91 : a0.eval (.tmp 91) = t91 := by rw [ha0]; rfl
  have gY92 : a0.eval (.tmp 92) = t92 := by rw [ha0]; rfl
  have gY93 : a0.eval (.tmp 93) = t93 := by rw [ha0]; rfl
  have gY94 : a0.eval (.tmp 94) = t94 := by rw [ha0]; rfl
  have gY95 : a0.eval (.tmp 95) = t95 := by rw [ha0]; rfl
  have gY96 : a0.eval (.tmp 96) = t96 := by rw [ha0]; rfl
  have gY97 : a0.eval (.tmp 97) = t97 := by rw [ha0]; rfl
  have gY98 : a0.eval (.tmp 98) = t98 := by rw [ha0]; rfl
  have gY99 : a0.eval (.tmp 99) = t99 := by rw [ha0]; rfl
  have gY100 : a0.eval (.tmp 100) = t100 := by rw [ha0]; rfl
  have gY101 : a0.eval (.tmp 101) = t101 := by rw [ha0]; rfl
  have gY102 : a0.eval (.tmp 102) = t102 := by rw [ha0]; rfl
  have gY103 : a0.eval (.tmp 103) = t103 := by rw [ha0]; rfl
  have gY104 : a0.eval (.tmp 104) = t104 := by rw [ha0]; rfl
  have gY105 : a0.eval (.tmp 105) = t105 := by rw [ha0]; rfl
  have gY106 : a0.eval (.tmp 106) = t106 := by rw [ha0]; rfl
  have gY107 : a0.eval (.tmp 107) = t107 := by rw [ha0]; rfl
  have gY108 : a0.eval (.tmp 108) = t108 := by rw [ha0]; rfl
  have gY109 : a0.eval (.tmp 109) = t109 := by rw [ha0]; rfl
  have gY110 : a0.eval (.tmp 110) = t110 := by rw [ha0]; rfl
  have gY111 : a0.eval (.tmp 111) = t111 := by rw [ha0]; rfl
  have gY112 : a0.eval (.tmp 112) = t112 := by rw [ha0]; rfl
  have gY113 : a0.eval (.tmp 113) = t113 := by rw [ha0]; rfl
  have gY114 : a0.eval (.tmp 114) = t114 := by rw [ha0]; rfl
  have gY115 : a0.eval (.tmp 115) = t115 := by rw [ha0]; rfl
  have gY123 : a0.eval (.tmp 123) = t123 := by rw [ha0]; rfl
  have gY124 : a0.eval (.tmp 124) = t124 := by rw [ha0]; rfl
  have gY125 : a0.eval (.tmp 125) = t125 := by rw [ha0]; rfl
  rw [← ha0]
  refine mrb_core W N0 mb bt a1 n1 c1 A z a0 hs0 gY10 gY15 hN0 hM4 hMf hO hT0 hz nb nbt hlA hR hB ?_
  clear ha0
  rintro a X ⟨es, ed, ag⟩ hF
  have hq := fin X (a.eval (.tmp 116)) (a.eval (.tmp 117)) (a.eval (.tmp 118)) (a.eval (.tmp 119)) (a.eval (.tmp 120)) (a.eval (.tmp 121)) (a.eval (.tmp 122)) hF
  have ea : a = ⟨#[a.eval (.tmp 0), a.eval (.tmp 1), a.eval (.tmp 2), a.eval (.tmp 3), a.eval (.tmp 4), a.eval (.tmp 5), a.eval (.tmp 6), a.eval (.tmp 7), a.eval (.tmp 8), a.eval (.tmp 9), a.eval (.tmp 10), a.eval (.tmp 11), a.eval (.tmp 12), a.eval (.tmp 13), a.eval (.tmp 14), a.eval (.tmp 15), a.eval (.tmp 16), a.eval (.tmp 17), a.eval (.tmp 18), a.eval (.tmp 19), a.eval (.tmp 20), a.eval (.tmp 21), a.eval (.tmp 22), a.eval (.tmp 23), a.eval (.tmp 24), a.eval (.tmp 25), a.eval (.tmp 26), a.eval (.tmp 27), a.eval (.tmp 28), a.eval (.tmp 29), a.eval (.tmp 30), a.eval (.tmp 31), a.eval (.tmp 32), a.eval (.tmp 33), a.eval (.tmp 34), a.eval (.tmp 35), a.eval (.tmp 36), a.eval (.tmp 37), a.eval (.tmp 38), a.eval (.tmp 39), a.eval (.tmp 40), a.eval (.tmp 41), a.eval (.tmp 42), a.eval (.tmp 43), a.eval (.tmp 44), a.eval (.tmp 45), a.eval (.tmp 46), a.eval (.tmp 47), a.eval (.tmp 48), a.eval (.tmp 49), a.eval (.tmp 50), a.eval (.tmp 51), a.eval (.tmp 52), a.eval (.tmp 53), a.eval (.tmp 54), a.eval (.tmp 55), a.eval (.tmp 56), a.eval (.tmp 57), a.eval (.tmp 58), a.eval (.tmp 59), a.eval (.tmp 60), a.eval (.tmp 61), a.eval (.tmp 62), a.eval (.tmp 63), a.eval (.tmp 64), a.eval (.tmp 65), a.eval (.tmp 66), a.eval (.tmp 67), a.eval (.tmp 68), a.eval (.tmp 69), a.eval (.tmp 70), a.eval (.tmp 71), a.eval (.tmp 72), a.eval (.tmp 73), a.eval (.tmp 74), a.eval (.tmp 75), a.eval (.tmp 76), a.eval (.tmp 77), a.eval (.tmp 78), a.eval (.tmp 79), a.eval (.tmp 80), a.eval (.tmp 81), a.eval (.tmp 82), a.eval (.tmp 83), a.eval (.tmp 84), a.eval (.tmp 85), a.eval (.tmp 86), a.eval (.tmp 87), a.eval (.tmp 88), a.eval (.tmp 89), a.eval (.tmp 90), a.eval (.tmp 91), a.eval (.tmp 92), a.eval (.tmp 93), a.eval (.tmp 94), a.eval (.tmp 95), a.eval (.tmp 96), a.eval (.tmp 97), a.eval (.tmp 98), a.eval (.tmp 99), a.eval (.tmp 100), a.eval (.tmp 101), a.eval (.tmp 102), a.eval (.tmp 103), a.eval (.tmp 104), a.eval (.tmp 105), a.eval (.tmp 106), a.eval (.tmp 107), a.eval (.tmp 108), a.eval (.tmp 109), a.eval (.tmp 110), a.eval (.tmp 111), a.eval (.tmp 112), a.eval (.tmp 113), a.eval (.tmp 114), a.eval (.tmp 115), a.eval (.tmp 116), a.eval (.tmp 117), a.eval (.tmp 118), a.eval (.tmp 119), a.eval (.tmp 120), a.eval (.tmp 121), a.eval (.tmp 122), a.eval (.tmp 123), a.eval (.tmp 124), a.eval (.tmp 125)], a.defers⟩ := act_eta a 126 (es.trans hs0)
  rw [ea, ed, hd0]
  have kY0 : a.eval (.tmp 0) = t0 := (ag 0 (by decide)).trans gY0
  have kY1 : a.eval (.tmp 1) = t1 := (ag 1 (by decide)).trans gY1
  have kY2 : a.eval (.tmp 2) = t2 := (ag 2 (by decide)).trans gY2
  have kY3 : a.eval (.tmp 3) = t3 := (ag 3 (by decide)).trans gY3
  have kY4 : a.eval (.tmp 4) = t4 := (ag 4 (by decide)).trans gY4
  have kY5 : a.eval (.tmp 5) = t5 := (ag 5 (by decide)).trans gY5
  have kY6 : a.eval (.tmp 6) = t6 := (ag 6 (by decide)).trans gY6
  have kY7 : a.eval (.tmp 7) = t7 := (ag 7 (by decide)).trans gY7
  have kY8 : a.eval (.tmp 8) = t8 := (ag 8 (by decide)).trans gY8
  have kY9 : a.eval (.tmp 9) = t9 := (ag 9 (by decide)).trans gY9
  have kY10 : a.eval (.tmp 10) = .pointer (some ⟨mb, 0, none⟩) := (ag 10 (by decide)).trans gY10
  have kY11 : a.eval (.tmp 11) = t11 := (ag 11 (by decide)).trans gY11
  have kY12 : a.eval (.tmp 12) = t12 := (ag 12 (by decide)).trans gY12
  have kY13 : a.eval (.tmp 13) = t13 := (ag 13 (by decide)).trans gY13
  have kY14 : a.eval (.tmp 14) = t14 := (ag 14 (by decide)).trans gY14
  have kY15 : a.eval (.tmp 15) = .pointer (some ⟨bt, 0, none⟩) := (ag 15 (by decide)).trans gY15
  have kY16 : a.eval (.tmp 16) = t16 := (ag 16 (by decide)).trans gY16
  have kY17 : a.eval (.tmp 17) = t17 := (ag 17 (by decide)).trans gY17
  have kY18 : a.eval (.tmp 18) = t18 := (ag 18 (by decide)).trans gY18
  have kY19 : a.eval (.tmp 19) = t19 := (ag 19 (by decide)).trans gY19
  have kY20 : a.eval (.tmp 20) = t20 := (ag 20 (by decide)).trans gY20
  have kY21 : a.eval (.tmp 21) = t21 := (ag 21 (by decide)).trans gY21
  have kY22 : a.eval (.tmp 22) = t22 := (ag 22 (by decide)).trans gY22
  have kY23 : a.eval (.tmp 23) = t23 := (ag 23 (by decide)).trans gY23
  have kY24 : a.eval (.tmp 24) = t24 := (ag 24 (by decide)).trans gY24
  have kY25 : a.eval (.tmp 25) = t25 := (ag 25 (by decide)).trans gY25
  have kY26 : a.eval (.tmp 26) = t26 := (ag 26 (by decide)).trans gY26
  have kY27 : a.eval (.tmp 27) = t27 := (ag 27 (by decide)).trans gY27
  have kY28 : a.eval (.tmp 28) = t28 := (ag 28 (by decide)).trans gY28
  have kY29 : a.eval (.tmp 29) = t29 := (ag 29 (by decide)).trans gY29
  have kY30 : a.eval (.tmp 30) = t30 := (ag 30 (by decide)).trans gY30
  have kY31 : a.eval (.tmp 31) = t31 := (ag 31 (by decide)).trans gY31
  have kY32 : a.eval (.tmp 32) = t32 := (ag 32 (by decide)).trans gY32
  have kY33 : a.eval (.tmp 33) = t33 := (ag 33 (by decide)).trans gY33
  have kY34 : a.eval (.tmp 34) = t34 := (ag 34 (by decide)).trans gY34
  have kY35 : a.eval (.tmp 35) = t35 := (ag 35 (by decide)).trans gY35
  have kY36 : a.eval (.tmp 36) = t36 := (ag 36 (by decide)).trans gY36
  have kY37 : a.eval (.tmp 37) = t37 := (ag 37 (by decide)).trans gY37
  have kY38 : a.eval (.tmp 38) = t38 := (ag 38 (by decide)).trans gY38
  have kY39 : a.eval (.tmp 39) = t39 := (ag 39 (by decide)).trans gY39
  have kY40 : a.eval (.tmp 40) = t40 := (ag 40 (by decide)).trans gY40
  have kY41 : a.eval (.tmp 41) = t41 := (ag 41 (by decide)).trans gY41
  have kY42 : a.eval (.tmp 42) = t42 := (ag 42 (by decide)).trans gY42
  have kY43 : a.eval (.tmp 43) = t43 := (ag 43 (by decide)).trans gY43
  have kY44 : a.eval (.tmp 44) = t44 := (ag 44 (by decide)).trans gY44
  have kY45 : a.eval (.tmp 45) = t45 := (ag 45 (by decide)).trans gY45
  have kY46 : a.eval (.tmp 46) = t46 := (ag 46 (by decide)).trans gY46
  have kY47 : a.eval (.tmp 47) = t47 := (ag 47 (by decide)).trans gY47
  have kY48 : a.eval (.tmp 48) = t48 := (ag 48 (by decide)).trans gY48
  have kY49 : a.eval (.tmp 49) = t49 := (ag 49 (by decide)).trans gY49
  have kY50 : a.eval (.tmp 50) = t50 := (ag 50 (by decide)).trans gY50
  have kY51 : a.eval (.tmp 51) = t51 := (ag 51 (by decide)).trans gY51
  have kY52 : a.eval (.tmp 52) = t52 := (ag 52 (by decide)).trans gY52
  have kY53 : a.eval (.tmp 53) = t53 := (ag 53 (by decide)).trans gY53
  have kY54 : a.eval (.tmp 54) = t54 := (ag 54 (by decide)).trans gY54
  have kY55 : a.eval (.tmp 55) = t55 := (ag 55 (by decide)).trans gY55
  have kY56 : a.eval (.tmp 56) = t56 := (ag 56 (by decide)).trans gY56
  have kY57 : a.eval (.tmp 57) = t57 := (ag 57 (by decide)).trans gY57
  have kY58 : a.eval (.tmp 58) = t58 := (ag 58 (by decide)).trans gY58
  have kY59 : a.eval (.tmp 59) = t59 := (ag 59 (by decide)).trans gY59
  have kY60 : a.eval (.tmp 60) = t60 := (ag 60 (by decide)).trans gY60
  have kY61 : a.eval (.tmp 61) = t61 := (ag 61 (by decide)).trans gY61
  have kY62 : a.eval (.tmp 62) = t62 := (ag 62 (by decide)).trans gY62
  have kY63 : a.eval (.tmp 63) = t63 := (ag 63 (by decide)).trans gY63
  have kY64 : a.eval (.tmp 64) = t64 := (ag 64 (by decide)).trans gY64
  have kY65 : a.eval (.tmp 65) = t65 := (ag 65 (by decide)).trans gY65
  have kY66 : a.eval (.tmp 66) = t66 := (ag 66 (by decide)).trans gY66
  have kY67 : a.eval (.tmp 67) = t67 := (ag 67 (by decide)).trans gY67
  have kY68 : a.eval (.tmp 68) = t68 := (ag 68 (by decide)).trans gY68
  have kY69 : a.eval (.tmp 69) = t69 := (ag 69 (by decide)).trans gY69
  have kY70 : a.eval (.tmp 70) = t70 := (ag 70 (by decide)).trans gY70
  have kY71 : a.eval (.tmp 71) = t71 := (ag 71 (by decide)).trans gY71
  have kY72 : a.eval (.tmp 72) = t72 := (ag 72 (by decide)).trans gY72
  have kY73 : a.eval (.tmp 73) = t73 := (ag 73 (by decide)).trans gY73
  have kY74 : a.eval (.tmp 74) = t74 := (ag 74 (by decide)).trans gY74
  have kY75 : a.eval (.tmp 75) = t75 := (ag 75 (by decide)).trans gY75
  have kY76 : a.eval (.tmp 76) = t76 := (ag 76 (by decide)).trans gY76
  have kY77 : a.eval (.tmp 77) = t77 := (ag 77 (by decide)).trans gY77
  have kY78 : a.eval (.tmp 78) = t78 := (ag 78 (by decide)).trans gY78
  have kY79 : a.eval (.tmp 79) = t79 := (ag 79 (by decide)).trans gY79
  have kY80 : a.eval (.tmp 80) = t80 := (ag 80 (by decide)).trans gY80
  have kY81 : a.eval (.tmp 81) = t81 := (ag 81 (by decide)).trans gY81
  have kY82 : a.eval (.tmp 82) = t82 := (ag 82 (by decide)).trans gY82
  have kY83 : a.eval (.tmp 83) = t83 := (ag 83 (by decide)).trans gY83
  have kY84 : a.eval (.tmp 84) = t84 := (ag 84 (by decide)).trans gY84
  have kY85 : a.eval (.tmp 85) = t85 := (ag 85 (by decide)).trans gY85
  have kY86 : a.eval (.tmp 86) = t86 := (ag 86 (by decide)).trans gY86
  have kY87 : a.eval (.tmp 87) = t87 := (ag 87 (by decide)).trans gY87
  have kY88 : a.eval (.tmp 88) = t88 := (ag 88 (by decide)).trans gY88
  have kY89 : a.eval (.tmp 89) = t89 := (ag 89 (by decide)).trans gY89
  have kY90 : a.eval (.tmp 90) = t90 := (ag 90 (by decide)).trans gY90
  have kY91 : a.eval (.tmp 91) = t91 := (ag 91 (by decide)).trans gY91
  have kY92 : a.eval (.tmp 92) = t92 := (ag 92 (by decide)).trans gY92
  have kY93 : a.eval (.tmp 93) = t93 := (ag 93 (by decide)).trans gY93
  have kY94 : a.eval (.tmp 94) = t94 := (ag 94 (by decide)).trans gY94
  have kY95 : a.eval (.tmp 95) = t95 := (ag 95 (by decide)).trans gY95
  have kY96 : a.eval (.tmp 96) = t96 := (ag 96 (by decide)).trans gY96
  have kY97 : a.eval (.tmp 97) = t97 := (ag 97 (by decide)).trans gY97
  have kY98 : a.eval (.tmp 98) = t98 := (ag 98 (by decide)).trans gY98
  have kY99 : a.eval (.tmp 99) = t99 := (ag 99 (by decide)).trans gY99
  have kY100 : a.eval (.tmp 100) = t100 := (ag 100 (by decide)).trans gY100
  have kY101 : a.eval (.tmp 101) = t101 := (ag 101 (by decide)).trans gY101
  have kY102 : a.eval (.tmp 102) = t102 := (ag 102 (by decide)).trans gY102
  have kY103 : a.eval (.tmp 103) = t103 := (ag 103 (by decide)).trans gY103
  have kY104 : a.eval (.tmp 104) = t104 := (ag 104 (by decide)).trans gY104
  have kY105 : a.eval (.tmp 105) = t105 := (ag 105 (by decide)).trans gY105
  have kY106 : a.eval (.tmp 106) = t106 := (ag 106 (by decide)).trans gY106
  have kY107 : a.eval (.tmp 107) = t107 := (ag 107 (by decide)).trans gY107
  have kY108 : a.eval (.tmp 108) = t108 := (ag 108 (by decide)).trans gY108
  have kY109 : a.eval (.tmp 109) = t109 := (ag 109 (by decide)).trans gY109
  have kY110 : a.eval (.tmp 110) = t110 := (ag 110 (by decide)).trans gY110
  have kY111 : a.eval (.tmp 111) = t111 := (ag 111 (by decide)).trans gY111
  have kY112 : a.eval (.tmp 112) = t112 := (ag 112 (by decide)).trans gY112
  have kY113 : a.eval (.tmp 113) = t113 := (ag 113 (by decide)).trans gY113
  have kY114 : a.eval (.tmp 114) = t114 := (ag 114 (by decide)).trans gY114
  have kY115 : a.eval (.tmp 115) = t115 := (ag 115 (by decide)).trans gY115
  have kY123 : a.eval (.tmp 123) = t123 := (ag 123 (by decide)).trans gY123
  have kY124 : a.eval (.tmp 124) = t124 := (ag 124 (by decide)).trans gY124
  have kY125 : a.eval (.tmp 125) = t125 := (ag 125 (by decide)).trans gY125
  rw [kY0, kY1, kY2, kY3, kY4, kY5, kY6, kY7, kY8, kY9, kY10, kY11, kY12, kY13, kY14, kY15, kY16, kY17, kY18, kY19, kY20, kY21, kY22, kY23, kY24, kY25, kY26, kY27, kY28, kY29, kY30, kY31, kY32, kY33, kY34, kY35, kY36, kY37, kY38, kY39, kY40, kY41, kY42, kY43, kY44, kY45, kY46, kY47, kY48, kY49, kY50, kY51, kY52, kY53, kY54, kY55, kY56, kY57, kY58, kY59, kY60, kY61, kY62, kY63, kY64, kY65, kY66, kY67, kY68, kY69, kY70, kY71, kY72, kY73, kY74, kY75, kY76, kY77, kY78, kY79, kY80, kY81, kY82, kY83, kY84, kY85, kY86, kY87, kY88, kY89, kY90, kY91, kY92, kY93, kY94, kY95, kY96, kY97, kY98, kY99, kY100, kY101, kY102, kY103, kY104, kY105, kY106, kY107, kY108, kY109, kY110, kY111, kY112, kY113, kY114, kY115, kY123, kY124, kY125]
  exact hq

end Go.Proofs.Ytepmdnggiajkbaa

/-
  A statement of the program's machine() whose order is open: the cells of a row, by the first columns.
-/
namespace Go.Proofs.Ytepmdnggiajkbaa
set_option linter.unusedVariables false
open Go.RowKit

theorem fldT0 {w : World} {b : Nat} : (Instr.fieldAt 62 (.pointer (some ⟨b, 0, none⟩)) 0).run Try.prog w = .ok (.pointer (some ⟨b, 0, none⟩)) w := by go_simp
theorem fldT1 {w : World} {b : Nat} : (Instr.fieldAt 62 (.pointer (some ⟨b, 0, none⟩)) 1).run Try.prog w = .ok (.pointer (some ⟨b, 1, none⟩)) w := by go_simp
def mrc0 : Oper := { dst := some 98, op := Op.move (Operand.tmp 0), type := 23, pos := "table.go:223", after := #[], guard := none }
def mrc1 : Oper := { dst := some 99, op := Op.move (Operand.tmp 12), type := 3, pos := "table.go:223", after := #[], guard := none }
def mrc2 : Oper := { dst := some 100, op := Op.move (Operand.tmp 0), type := 23, pos := "table.go:223", after := #[], guard := none }
def mrc3 : Oper := { dst := some 101, op := Op.nilCheck (Operand.tmp 100), type := 0, pos := "table.go:223", after := #[{ on := 2, ground := Ground.data }], guard := none }
def mrc4 : Oper := { dst := some 102, op := Op.fieldAddr 62 (Operand.tmp 101) 0, type := 0, pos := "table.go:223", after := #[{ on := 3, ground := Ground.data }], guard := none }
def mrc5 : Oper := { dst := some 103, op := Op.load 3 (Operand.tmp 102), type := 3, pos := "table.go:223", after := #[{ on := 4, ground := Ground.data }], guard := none }
def mrc6 : Oper := { dst := some 104, op := Op.move (Operand.tmp 0), type := 23, pos := "table.go:223", after := #[], guard := none }
def mrc7 : Oper := { dst := some 105, op := Op.nilCheck (Operand.tmp 104), type := 0, pos := "table.go:223", after := #[{ on := 6, ground := Ground.data }], guard := none }
def mrc8 : Oper := { dst := some 106, op := Op.fieldAddr 62 (Operand.tmp 105) 1, type := 0, pos := "table.go:223", after := #[{ on := 7, ground := Ground.data }], guard := none }
def mrc9 : Oper := { dst := some 107, op := Op.load 3 (Operand.tmp 106), type := 3, pos := "table.go:223", after := #[{ on := 8, ground := Ground.data }], guard := none }
def mrc10 : Oper := { dst := some 108, op := Op.call { callee := Callee.value (Operand.func 42), args := #[Operand.tmp 103, Operand.tmp 107], argTypes := #[3, 3] }, type := 59, pos := "table.go:223", after := #[{ on := 5, ground := Ground.data }, { on := 9, ground := Ground.data }], guard := none }
def mrc11 : Oper := { dst := some 109, op := Op.call { callee := Callee.builtin Builtin.len, args := #[Operand.tmp 108], argTypes := #[59] }, type := 3, pos := "table.go:223", after := #[{ on := 10, ground := Ground.data }], guard := none }
def mrc12 : Oper := { dst := some 110, op := Op.call { callee := Callee.value (Operand.func 54), args := #[Operand.tmp 98, Operand.tmp 99, Operand.tmp 109], argTypes := #[23, 3, 3] }, type := 100, pos := "table.go:223", after := #[{ on := 0, ground := Ground.data }, { on := 1, ground := Ground.data }, { on := 11, ground := Ground.data }, { on := 10, ground := Ground.chain }], guard := none }
def mrc13 : Oper := { dst := some 111, op := Op.call { callee := Callee.builtin Builtin.len, args := #[Operand.tmp 110], argTypes := #[100] }, type := 3, pos := "table.go:223", after := #[{ on := 12, ground := Ground.data }], guard := none }
def mrc14 : Oper := { dst := some 112, op := Op.move (Operand.const (Value.int IntKind.i64 0)), type := 3, pos := "table.go:223", after := #[], guard := none }
def mrcOps : Array Oper := #[mrc0, mrc1, mrc2, mrc3, mrc4, mrc5, mrc6, mrc7, mrc8, mrc9, mrc10, mrc11, mrc12, mrc13, mrc14]

def mrcT (N0 b n1 K : Nat) (kd : Int) (C : List (List Int)) : Nat → Value → World → Prop
  | 0, v, _ => v = .pointer (some ⟨b, 0, none⟩)
  | 1, v, _ => v = .int .i64 (n1 : Int)
  | 2, v, _ => v = .pointer (some ⟨b, 0, none⟩)
  | 3, v, _ => v = .pointer (some ⟨b, 0, none⟩)
  | 4, v, _ => v = .pointer (some ⟨b, 0, none⟩)
  | 5, v, _ => v = .int .i64 kd
  | 6, v, _ => v = .pointer (some ⟨b, 0, none⟩)
  | 7, v, _ => v = .pointer (some ⟨b, 0, none⟩)
  | 8, v, _ => v = .pointer (some ⟨b, 1, none⟩)
  | 9, v, _ => v = .int .i64 (K : Int)
  | 10, v, W => ∃ a c, v = .slice a (tnC kd (K : Int)).length c
  | 11, v, _ => v = .int .i64 ((tnC kd (K : Int)).length : Int)
  | 12, v, W => OwnG 73 1 spE W N0 v C
  | 13, v, _ => v = .int .i64 (C.length : Int)
  | 14, v, _ => v = .int .i64 0
  | _, _, _ => True
theorem mrcT_below (N0 b n1 K : Nat) (kd : Int) (C : List (List Int)) {v : Value} {W W' : World} (hb : Below W.heap.size W W') : ∀ {i : Nat}, mrcT N0 b n1 K kd C i v W → mrcT N0 b n1 K kd C i v W'
  | 0, h => h
  | 1, h => h
  | 2, h => h
  | 3, h => h
  | 4, h => h
  | 5, h => h
  | 6, h => h
  | 7, h => h
  | 8, h => h
  | 9, h => h
  | 10, h => h
  | 11, h => h
  | 12, h => OwnG.below h hb
  | 13, h => h
  | 14, h => h
  | _ + 15, h => h
set_option maxRecDepth 100000 in
set_option maxHeartbeats 1000000 in
theorem mrc_ok : okG mrcOps [98, 99, 100, 101, 102, 103, 104, 105, 106, 107, 108, 109, 110, 111, 112] = true := by kernel_rfl
set_option maxRecDepth 100000 in
set_option maxHeartbeats 8000000 in
theorem mrc_core {Q : Exit → Act → World → Prop} (W : World) (N0 b n1 K : Nat) (kd : Int) (C : List (List Int)) (a0 : Act) (hs0 : a0.tmps.size = 126) (eY0 : a0.eval (.tmp 0) = .pointer (some ⟨b, 0, none⟩)) (eY12 : a0.eval (.tmp 12) = .int .i64 (n1 : Int))
    (h0 : W.cell? ⟨b, 0, none⟩ = some (.int .i64 kd)) (h1 : W.cell? ⟨b, 1, none⟩ = some (.int .i64 (K : Int))) (hkd : kd = 1 ∨ kd = 2) (hK : K ≤ 64)
    (hcl : ∀ X, Below W.heap.size W X → Calls Try.prog 54 #[.pointer (some ⟨b, 0, none⟩), .int .i64 (n1 : Int), .int .i64 ((tnC kd (K : Int)).length : Int)] X fun e X' => ∃ v, e = .returned v ∧ OwnG 73 1 spE X' N0 v C ∧ Below X.heap.size X X')
    (fin : ∀ a X, EInv a0 W 15 (fun i => [98, 99, 100, 101, 102, 103, 104, 105, 106, 107, 108, 109, 110, 111, 112].getD i 0) (mrcT N0 b n1 K kd C) (fun _ => True) a X → Q .normal a X) :
    (Code.region 21 mrcOps true).wp Try.prog Q a0 W := by
  refine wp_region_guard (by kernel_rfl) a0 W 15 (fun i => [98, 99, 100, 101, 102, 103, 104, 105, 106, 107, 108, 109, 110, 111, 112].getD i 0) (mrcT N0 b n1 K kd C) rfl (fun _ _ _ _ h hb => mrcT_below N0 b n1 K kd C hb h) (by decide) (fun i hi => by rw [hs0]; exact (show ∀ i, i < 15 → [98, 99, 100, 101, 102, 103, 104, 105, 106, 107, 108, 109, 110, 111, 112].getD i 0 < 126 by decide) i hi) (hdG_of mrc_ok) ?_ fin
  intro j o ho a X E haft KK hKK
  have hj : j < 15 := (Array.getElem?_eq_some_iff.1 ho).1
  have hsz : a.tmps.size = 126 := E.sz.trans hs0
  have fY0 : a.eval (.tmp 0) = .pointer (some ⟨b, 0, none⟩) := (E.ag 0 (by decide)).trans eY0
  have fY12 : a.eval (.tmp 12) = .int .i64 (n1 : Int) := (E.ag 12 (by decide)).trans eY12
  have r := Below.refl X.heap.size X
  have bl := E.bl
  clear E fin
  rcases (by omega : j = 0 ∨ j = 1 ∨ j = 2 ∨ j = 3 ∨ j = 4 ∨ j = 5 ∨ j = 6 ∨ j = 7 ∨ j = 8 ∨ j = 9 ∨ j = 10 ∨ j = 11 ∨ j = 12 ∨ j = 13 ∨ j = 14) with rfl | rfl | rfl | rfl | rfl | rfl | rfl | rfl | rfl | rfl | rfl | rfl | rfl | rfl | rfl
  · obtain rfl : mrc0 = o := Option.some.inj ho
    refine wpOp_on ho (wanted_none rfl) ?_
    exact wp_valueZ (v := .pointer (some ⟨b, 0, none⟩)) (w' := X) (by simp [execOp, mrc0, fY0]) (hKK _ _ r rfl)
  · obtain rfl : mrc1 = o := Option.some.inj ho
    refine wpOp_on ho (wanted_none rfl) ?_
    exact wp_valueZ (v := .int .i64 (n1 : Int)) (w' := X) (by simp [execOp, mrc1, fY12]) (hKK _ _ r rfl)
  · obtain rfl : mrc2 = o := Option.some.inj ho
    refine wpOp_on ho (wanted_none rfl) ?_
    exact wp_valueZ (v := .pointer (some ⟨b, 0, none⟩)) (w' := X) (by simp [execOp, mrc2, fY0]) (hKK _ _ r rfl)
  · obtain rfl : mrc3 = o := Option.some.inj ho
    refine wpOp_on ho (wanted_none rfl) ?_
    have d0 : a.eval (.tmp 100) = .pointer (some ⟨b, 0, none⟩) := haft ⟨2, .data⟩ (by simp [mrc3]) rfl
    exact wp_valueZ (v := .pointer (some ⟨b, 0, none⟩)) (w' := X) (by simp [execOp, mrc3, d0]) (hKK _ _ r rfl)
  · obtain rfl : mrc4 = o := Option.some.inj ho
    refine wpOp_on ho (wanted_none rfl) ?_
    have d0 : a.eval (.tmp 101) = .pointer (some ⟨b, 0, none⟩) := haft ⟨3, .data⟩ (by simp [mrc4]) rfl
    exact wp_valueZ (v := .pointer (some ⟨b, 0, none⟩)) (w' := X) (by simp [execOp, mrc4, d0, fldT0]) (hKK _ _ r rfl)
  · obtain rfl : mrc5 = o := Option.some.inj ho
    refine wpOp_on ho (wanted_none rfl) ?_
    have d0 : a.eval (.tmp 102) = .pointer (some ⟨b, 0, none⟩) := haft ⟨4, .data⟩ (by simp [mrc5]) rfl
    have q := (bl.cell (p := ⟨b, 0, none⟩) (World.block_lt_of_cell? W _ h0)).trans h0
    exact wp_valueZ (v := .int .i64 kd) (w' := X) (by simp [execOp, mrc5, d0, ldIn q]) (hKK _ _ r rfl)
  · obtain rfl : mrc6 = o := Option.some.inj ho
    refine wpOp_on ho (wanted_none rfl) ?_
    exact wp_valueZ (v := .pointer (some ⟨b, 0, none⟩)) (w' := X) (by simp [execOp, mrc6, fY0]) (hKK _ _ r rfl)
  · obtain rfl : mrc7 = o := Option.some.inj ho
    refine wpOp_on ho (wanted_none rfl) ?_
    have d0 : a.eval (.tmp 104) = .pointer (some ⟨b, 0, none⟩) := haft ⟨6, .data⟩ (by simp [mrc7]) rfl
    exact wp_valueZ (v := .pointer (some ⟨b, 0, none⟩)) (w' := X) (by simp [execOp, mrc7, d0]) (hKK _ _ r rfl)
  · obtain rfl : mrc8 = o := Option.some.inj ho
    refine wpOp_on ho (wanted_none rfl) ?_
    have d0 : a.eval (.tmp 105) = .pointer (some ⟨b, 0, none⟩) := haft ⟨7, .data⟩ (by simp [mrc8]) rfl
    exact wp_valueZ (v := .pointer (some ⟨b, 1, none⟩)) (w' := X) (by simp [execOp, mrc8, d0, fldT1]) (hKK _ _ r rfl)
  · obtain rfl : mrc9 = o := Option.some.inj ho
    refine wpOp_on ho (wanted_none rfl) ?_
    have d0 : a.eval (.tmp 106) = .pointer (some ⟨b, 1, none⟩) := haft ⟨8, .data⟩ (by simp [mrc9]) rfl
    have q := (bl.cell (p := ⟨b, 1, none⟩) (World.block_lt_of_cell? W _ h1)).trans h1
    exact wp_valueZ (v := .int .i64 (K : Int)) (w' := X) (by simp [execOp, mrc9, d0, ldIn q]) (hKK _ _ r rfl)
  · obtain rfl : mrc10 = o := Option.some.inj ho
    refine wpOp_on ho (wanted_none rfl) ?_
    have d0 : a.eval (.tmp 103) = .int .i64 kd := haft ⟨5, .data⟩ (by simp [mrc10]) rfl
    have d1 : a.eval (.tmp 107) = .int .i64 (K : Int) := haft ⟨9, .data⟩ (by simp [mrc10]) rfl
    refine wp_enterZ (run_call2Z rfl (enters_of Try.func42 (by kernel_rfl) rfl) d0 d1) (firstCols_any kd K X hkd hK) ?_
    rintro e X' ⟨v, rfl, hv, hb⟩
    obtain ⟨a', c', e'⟩ := hv.shape
    exact ⟨_, rfl, hKK _ _ hb ⟨a', c', e'⟩⟩
  · obtain rfl : mrc11 = o := Option.some.inj ho
    refine wpOp_on ho (wanted_none rfl) ?_
    obtain ⟨a', c', d0⟩ := haft ⟨10, .data⟩ (by simp [mrc11]) rfl
    have d1 : a.eval (.tmp 108) = .slice a' (tnC kd (K : Int)).length c' := d0
    exact wp_valueZ (v := .int .i64 ((tnC kd (K : Int)).length : Int)) (w' := X) (by simp [execOp, mrc11, resolve, invoke, builtin, d1]; go_simp) (hKK _ _ r rfl)
  · obtain rfl : mrc12 = o := Option.some.inj ho
    refine wpOp_on ho (wanted_none rfl) ?_
    have d0 := haft ⟨0, .data⟩ (by simp [mrc12]) rfl
    have d1 := haft ⟨1, .data⟩ (by simp [mrc12]) rfl
    have d2 := haft ⟨11, .data⟩ (by simp [mrc12]) rfl
    refine wp_enterZ (run_call3Z rfl (enters_of Try.func54 (by kernel_rfl) rfl) d0 d1 d2) (hcl X bl) ?_
    rintro e X' ⟨v, rfl, hv, hb⟩
    exact ⟨_, rfl, hKK _ _ hb hv⟩
  · obtain rfl : mrc13 = o := Option.some.inj ho
    refine wpOp_on ho (wanted_none rfl) ?_
    have d0 : OwnG 73 1 spE X N0 (a.eval (.tmp 110)) C := haft ⟨12, .data⟩ (by simp [mrc13]) rfl
    obtain ⟨a', c', d1⟩ := d0.shape
    exact wp_valueZ (v := .int .i64 (C.length : Int)) (w' := X) (by simp [execOp, mrc13, resolve, invoke, builtin, d1]; go_simp) (hKK _ _ r rfl)
  · obtain rfl : mrc14 = o := Option.some.inj ho
    refine wpOp_on ho (wanted_none rfl) ?_
    exact wp_valueZ (v := .int .i64 0) (w' := X) (by first | rfl | (simp [execOp, mrc14]; rfl)) (hKK _ _ r rfl)
set_option maxRecDepth 100000 in
set_option maxHeartbeats 8000000 in
theorem mrc_region {Q : Exit → Act → World → Prop} (W : World) (N0 b n1 K : Nat) (kd : Int) (C : List (List Int)) (ds : List Deferred) (t1 t2 t3 t4 t5 t6 t7 t8 t9 t10 t11 t13 t14 t15 t16 t17 t18 t19 t20 t21 t22 t23 t24 t25 t26 t27 t28 t29 t30 t31 t32 t33 t34 t35 t36 t37 t38 t39 t40 t41 t42 t43 t44 t45 t46 t47 t48 t49 t50 t51 t52 t53 t54 t55 t56 t57 t58 t59 t60 t61 t62 t63 t64 t65 t66 t67 t68 t69 t70 t71 t72 t73 t74 t75 t76 t77 t78 t79 t80 t81 t82 t83 t84 t85 t86 t87 t88 t89 t90 t91 t92 t93 t94 t95 t96 t97 t98 t99 t100 t101 t102 t103 t104 t105 t106 t107 t108 t109 t110 t111 t112 t113 t114 t115 t116 t117 t118 t119 t120 t121 t122 t123 t124 t125 : Value)
    (h0 : W.cell? ⟨b, 0, none⟩ = some (.int .i64 kd)) (h1 : W.cell? ⟨b, 1, none⟩ = some (.int .i64 (K : Int))) (hkd : kd = 1 ∨ kd = 2) (hK : K ≤ 64)
    (hcl : ∀ X, Below W.heap.size W X → Calls Try.prog 54 #[.pointer (some ⟨b, 0, none⟩), .int .i64 (n1 : Int), .int .i64 ((tnC kd (K : Int)).length : Int)] X fun e X' => ∃ v, e = .returned v ∧ OwnG 73 1 spE X' N0 v C ∧ Below X.heap.size X X')
    (fin : ∀ X (u98 u99 u100 u101 u102 u103 u104 u105 u106 u107 u108 u109 u110 : Value), Below W.heap.size W X → (OwnG 73 1 spE X N0 u110 C) → Q .normal ⟨#[.pointer (some ⟨b, 0, none⟩), t1, t2, t3, t4, t5, t6, t7, t8, t9, t10, t11, .int .i64 (n1 : Int), t13, t14, t15, t16, t17, t18, t19, t20, t21, t22, t23, t24, t25, t26, t27, t28, t29, t30, t31, t32, t33, t34, t35, t36, t37, t38, t39, t40, t41, t42, t43, t44, t45, t46, t47, t48, t49, t50, t51, t52, t53, t54, t55, t56, t57, t58, t59, t60, t61, t62, t63, t64, t65, t66, t67, t68, t69, t70, t71, t72, t73, t74, t75, t76, t77, t78, t79, t80, t81, t82, t83, t84, t85, t86, t87, t88, t89, t90, t91, t92, t93, t94, t95, t96, t97, u98, u99, u100, u101, u102, u103, u104, u105, u106, u107, u108, u109, u110, .int .i64 (C.length : Int), .int .i64 0, t113, t114, t115, t116, t117, t118, t119, t120, t121, t122, t123, t124, t125], ds⟩ X) :
    (Code.region 21 mrcOps true).wp Try.prog Q ⟨#[.pointer (some ⟨b, 0, none⟩), t1, t2, t3, t4, t5, t6, t7, t8, t9, t10, t11, .int .i64 (n1 : Int), t13, t14, t15, t16, t17, t18, t19, t20, t21, t22, t23, t24, t25, t26, t27, t28, t29, t30, t31, t32, t33, t34, t35, t36, t37, t38, t39, t40, t41, t42, t43, t44, t45, t46, t47, t48, t49, t50, t51, t52, t53, t54, t55, t56, t57, t58, t59, t60, t61, t62, t63, t64, t65, t66, t67, t68, t69, t70, t71, t72, t73, t74, t75, t76, t77, t78, t79, t80, t81, t82, t83, t84, t85, t86, t87, t88, t89, t90, t91, t92, t93, t94, t95, t96, t97, t98, t99, t100, t101, t102, t103, t104, t105, t106, t107, t108, t109, t110, t111, t112, t113, t114, t115, t116, t117, t118, t119, t120, t121, t122, t123, t124, t125], ds⟩ W := by
  obtain ⟨a0, ha0⟩ : ∃ a0 : Act, a0 = ⟨#[.pointer (some ⟨b, 0, none⟩), t1, t2, t3, t4, t5, t6, t7, t8, t9, t10, t11, .int .i64 (n1 : Int), t13, t14, t15, t16, t17, t18, t19, t20, t21, t22, t23, t24, t25, t26, t27, t28, t29, t30, t31, t32, t33, t34, t35, t36, t37, t38, t39, t40, t41, t42, t43, t44, t45, t46, t47, t48, t49, t50, t51, t52, t53, t54, t55, t56, t57, t58, t59, t60, t61, t62, t63, t64, t65, t66, t67, t68, t69, t70, t71, t72, t73, t74, t75, t76, t77, t78, t79, t80, t81, t82, t83, t84, t85, t86, t87, t88, t89, t90, t91, t92, t93, t94, t95, t96, t97, t98, t99, t100, t101, t102, t103, t104, t105, t106, t107, t108, t109, t110, t111, t112, t113, t114, t115, t116, t117, t118, t119, t120, t121, t122, t123, t124, t125], ds⟩ := ⟨_, rfl⟩
  have hs0 : a0.tmps.size = 126 := by rw [ha0]; rfl
  have hd0 : a0.defers = ds := by rw [ha0]
  have gY0 : a0.eval (.tmp 0) = .pointer (some ⟨b, 0, none⟩) := by rw [ha0]; rfl
  have gY1 : a0.eval (.tmp 1) = t1 := by rw [ha0]; rfl
  have gY2 : a0.eval (.tmp 2) = t2 := by rw [ha0]; rfl
  have gY3 : a0.eval (.tmp 3) = t3 := by rw [ha0]; rfl
  have gY4 : a0.eval (.tmp 4) = t4 := by rw [ha0]; rfl
  have gY5 : a0.eval (.tmp 5) = t5 := by rw [ha0]; rfl
  have gY6 : a0.eval (.tmp 6) = t6 := by rw [ha0]; rfl
  have gY7 : a0.eval (.tmp 7) = t7 := by rw [ha0]; rfl
  have gY8 : a0.eval (.tmp 8) = t8 := by rw [ha0]; rfl
  have gY9 : a0.eval (.tmp 9) = t9 := by rw [ha0]; rfl
  have gY10 : a0.eval (.tmp 10) = t10 := by rw [ha0]; rfl
  have gY11 : a0.eval (.tmp 11) = t11 := by rw [ha0]; rfl
  have gY12 : a0.eval (.tmp 12) = .int .i64 (n1 : Int) := by rw [ha0]; rfl
  have gY13 : a0.eval (.tmp 13) = t13 := by rw [ha0]; rfl
  have gY14 : a0.eval (.tmp 14) = t14 := by rw [ha0]; rfl
  have gY15 : a0.eval (.tmp 15) = t15 := by rw [ha0]; rfl
  have gY16 : a0.eval (.tmp 16) = t16 := by rw [ha0]; rfl
  have gY17 : a0.eval (.tmp 17) = t17 := by rw [ha0]; rfl
  have gY18 : a0.eval (.tmp 18) = t18 := by rw [ha0]; rfl
  have gY19 : a0.eval (.tmp 19) = t19 := by rw [ha0]; rfl
  have gY20 : a0.eval (.tmp 20) = t20 := by rw [ha0]; rfl
  have gY21 : a0.eval (.tmp 21) = t21 := by rw [ha0]; rfl
  have gY22 : a0.eval (.tmp 22) = t22 := by rw [ha0]; rfl
  have gY23 : a0.eval (.tmp 23) = t23 := by rw [ha0]; rfl
  have gY24 : a0.eval (.tmp 24) = t24 := by rw [ha0]; rfl
  have gY25 : a0.eval (.tmp 25) = t25 := by rw [ha0]; rfl
  have gY26 : a0.eval (.tmp 26) = t26 := by rw [ha0]; rfl
  have gY27 : a0.eval (.tmp 27) = t27 := by rw [ha0]; rfl
  have gY28 : a0.eval (.tmp 28) = t28 := by rw [ha0]; rfl
  have gY29 : a0.eval (.tmp 29) = t29 := by rw [ha0]; rfl
  have gY30 : a0.eval (.tmp 30) = t30 := by rw [ha0]; rfl
  have gY31 : a0.eval (.tmp 31) = t31 := by rw [ha0]; rfl
  have gY32 : a0.eval (.tmp 32) = t32 := by rw [ha0]; rfl
  have gY33 : a0.eval (.tmp 33) = t33 := by rw [ha0]; rfl
  have gY34 : a0.eval (.tmp 34) = t34 := by rw [ha0]; rfl
  have gY35 : a0.eval (.tmp 35) = t35 := by rw [ha0]; rfl
  have gY36 : a0.eval (.tmp 36) = t36 := by rw [ha0]; rfl
  have gY37 : a0.eval (.tmp 37) = t37 := by rw [ha0]; rfl
  have gY38 : a0.eval (.tmp 38) = t38 := by rw [ha0]; rfl
  have gY39 : a0.eval (.tmp 39) = t39 := by rw [ha0]; rfl
  have gY40 : a0.eval (.tmp 40) = t40 := by rw [ha0]; rfl
  have gY41 : a0.eval (.tmp 41) = t41 := by rw [ha0]; rfl
  have gY42 : a0.eval (.tmp 42) = t42 := by rw [ha0]; rfl
  have gY43 : a0.eval (.tmp 43) = t43 := by rw [ha0]; rfl
  have gY44 : a0.eval (.tmp 44) = t44 := by rw [ha0]; rfl
  have gY45 : a0.eval (.tmp 45) = t45 := by rw [ha0]; rfl
  have gY46 : a0.eval (.tmp 46) = t46 := by rw [ha0]; rfl
  have gY47 : a0.eval (.tmp 47) = t47 := by rw [ha0]; rfl
  have gY48 : a0.eval (.tmp 48) = t48 := by rw [ha0]; rfl
  have gY49 : a0.eval (.tmp 49) = t49 := by rw [ha0]; rfl
  have gY50 : a0.eval (.tmp 50) = t50 := by rw [ha0]; rfl
  have gY51 : a0.eval (.tmp 51) = t51 := by rw [ha0]; rfl
  have gY52 : a0.eval (.tmp 52) = t52 := by rw [ha0]; rfl
  have gY53 : a0.eval (.tmp 53) = t53 := by rw [ha0]; rfl
  have gY54 : a0.eval (.tmp 54) = t54 := by rw [ha0]; rfl
  have gY55 : a0.eval (.tmp 55) = t55 := by rw [ha0]; rfl
  have gY56 : a0.eval (.tmp 56) = t56 := by rw [ha0]; rfl
  have gY57 : a0.eval (.tmp 57) = t57 := by rw [ha0]; rfl
  have gY58 : a0.eval (.tmp 58) = t58 := by rw [ha0]; rfl
  have gY59 : a0.eval (.tmp 59) = t59 := by rw [ha0]; rfl
  have gY60 : a0.eval (.tmp 60) = t60 := by rw [ha0]; rfl
  have gY61 : a0.eval (.tmp 61) = t61 := by rw [ha0]; rfl
  have gY62 : a0.eval (.tmp 62) = t62 := by rw [ha0]; rfl
  have gY63 : a0.eval (.tmp 63) = t63 := by rw [ha0]; rfl
  have gY64 : a0.eval (.tmp 64) = t64 := by rw [ha0]; rfl
  have gY65 : a0.eval (.tmp 65) = t65 := by rw [ha0]; rfl
  have gY66 : a0.eval (.tmp 66) = t66 := by rw [ha0]; rfl
  have gY67 : a0.eval (.tmp 67) = t67 := by rw [ha0]; rfl
  have gY68 : a0.eval (.tmp 68) = t68 := by rw [ha0]; rfl
  have gY69 : a0.eval (.tmp 69) = t69 := by rw [ha0]; rfl
  have gY70 : a0.eval (.tmp 70) = t70 := by rw [ha0]; rfl
  have gY71 : a0.eval (.tmp 71) = t71 := by rw [ha0]; rfl
  have gY72 : a0.eval (.tmp 72) = t72 := by rw [ha0]; rfl
  have gY73 : a0.eval (.tmp 73) = t73 := by rw [ha0]; rfl
  have gY74 : a0.eval (.tmp 74) = t74 := by rw [ha0]; rfl
  have gY75 : a0.eval (.tmp 75) = t75 := by rw [ha0]; rfl
  have gY76 : a0.eval (.tmp 76) = t76 := by rw [ha0]; rfl
  have gY77 : a0.eval (.tmp 77) = t77 := by rw [ha0]; rfl
  have gY78 : a0.eval (.tmp 78) = t78 := by rw [ha0]; rfl
  have gY79 : a0.eval (.tmp 79) = t79 := by rw [ha0]; rfl
  have gY80 : a0.eval (.tmp 80) = t80 := by rw [ha0]; rfl
  have gY81 : a0.eval (.tmp 81) = t81 := by rw [ha0]; rfl
  have gY82 : a0.eval (.tmp 82) = t82 := by rw [ha0]; rfl
  have gY83 : a0.eval (.tmp 83) = t83 := by rw [ha0]; rfl
  have gY84 : a0.eval (.tmp 84) = t84 := by rw [ha0]; rfl
  have gY85 : a0.eval (.tmp 85) = t85 := by rw [ha0]; rfl
  have gY86 : a0.eval (.tmp 86) = t86 := by rw [ha0]; rfl
  have gY87 : a0.eval (.tmp 87) = t87 := by rw [ha0]; rfl
  have gY88 : a0.eval (.tmp 88) = t88 := by rw [ha0]; rfl
  have gY89 : a0.eval (.tmp 89) = t89 := by rw [ha0]; rfl
  have gY90 : a0.eval (.tmp 90) = t90 := by rw [ha0]; rfl
  have gY91 : a0.eval (.tmp 91) = t91 := by rw [ha0]; rfl
  have gY92 : a0.eval (.tmp 92) = t92 := by rw [ha0]; rfl
  have gY93 : a0.eval (.tmp 93) = t93 := by rw [ha0]; rfl
  have gY94 : a0.eval (.tmp 94) = t94 := by rw [ha0]; rfl
  have gY95 : a0.eval (.tmp 95) = t95 := by rw [ha0]; rfl
  have gY96 : a0.eval (.tmp 96) = t96 := by rw [ha0]; rfl
  have gY97 : a0.eval (.tmp 97) = t97 := by rw [ha0]; rfl
  have gY113 : a0.eval (.tmp 113) = t113 := by rw [ha0]; rfl
  have gY114 : a0.eval (.tmp 114) = t114 := by rw [ha0]; rfl
  have gY115 : a0.eval (.tmp 115) = t115 := by rw [ha0]; rfl
  have gY116 : a0.eval (.tmp 116) = t116 := by rw [ha0]; rfl
  have gY117 : a0.eval (.tmp 117) = t117 := by rw [ha0]; rfl
  have gY118 : a0.eval (.tmp 118) = t118 := by rw [ha0]; rfl
  have gY119 : a0.eval (.tmp 119) = t119 := by rw [ha0]; rfl
  have gY120 : a0.eval (.tmp 120) = t120 := by rw [ha0]; rfl
  have gY121 : a0.eval (.tmp 121) = t121 := by rw [ha0]; rfl
  have gY122 : a0.eval (.tmp 122) = t122 := by rw [ha0]; rfl
  have gY123 : a0.eval (.tmp 123) = t123 := by rw [ha0]; rfl
  have gY124 : a0.eval (.tmp 124) = t124 := by rw [ha0]; rfl
  have gY125 : a0.eval (.tmp 125) = t125 := by rw [ha0]; rfl
  rw [← ha0]
  refine mrc_core W N0 b n1 K kd C a0 hs0 gY0 gY12 h0 h1 hkd hK hcl ?_
  clear ha0
  intro a X E
  have hq := fin X (a.eval (.tmp 98)) (a.eval (.tmp 99)) (a.eval (.tmp 100)) (a.eval (.tmp 101)) (a.eval (.tmp 102)) (a.eval (.tmp 103)) (a.eval (.tmp 104)) (a.eval (.tmp 105)) (a.eval (.tmp 106)) (a.eval (.tmp 107)) (a.eval (.tmp 108)) (a.eval (.tmp 109)) (a.eval (.tmp 110)) E.bl (E.vs 12 (by decide) trivial)
  have ea : a = ⟨#[a.eval (.tmp 0), a.eval (.tmp 1), a.eval (.tmp 2), a.eval (.tmp 3), a.eval (.tmp 4), a.eval (.tmp 5), a.eval (.tmp 6), a.eval (.tmp 7), a.eval (.tmp 8), a.eval (.tmp 9), a.eval (.tmp 10), a.eval (.tmp 11), a.eval (.tmp 12), a.eval (.tmp 13), a.eval (.tmp 14), a.eval (.tmp 15), a.eval (.tmp 16), a.eval (.tmp 17), a.eval (.tmp 18), a.eval (.tmp 19), a.eval (.tmp 20), a.eval (.tmp 21), a.eval (.tmp 22), a.eval (.tmp 23), a.eval (.tmp 24), a.eval (.tmp 25), a.eval (.tmp 26), a.eval (.tmp 27), a.eval (.tmp 28), a.eval (.tmp 29), a.eval (.tmp 30), a.eval (.tmp 31), a.eval (.tmp 32), a.eval (.tmp 33), a.eval (.tmp 34), a.eval (.tmp 35), a.eval (.tmp 36), a.eval (.tmp 37), a.eval (.tmp 38), a.eval (.tmp 39), a.eval (.tmp 40), a.eval (.tmp 41), a.eval (.tmp 42), a.eval (.tmp 43), a.eval (.tmp 44), a.eval (.tmp 45), a.eval (.tmp 46), a.eval (.tmp 47), a.eval (.tmp 48), a.eval (.tmp 49), a.eval (.tmp 50), a.eval (.tmp 51), a.eval (.tmp 52), a.eval (.tmp 53), a.eval (.tmp 54), a.eval (.tmp 55), a.eval (.tmp 56), a.eval (.tmp 57), a.eval (.tmp 58), a.eval (.tmp 59), a.eval (.tmp 60), a.eval (.tmp 61), a.eval (.tmp 62), a.eval (.tmp 63), a.eval (.tmp 64), a.eval (.tmp 65), a.eval (.tmp 66), a.eval (.tmp 67), a.eval (.tmp 68), a.eval (.tmp 69), a.eval (.tmp 70), a.eval (.tmp 71), a.eval (.tmp 72), a.eval (.tmp 73), a.eval (.tmp 74), a.eval (.tmp 75), a.eval (.tmp 76), a.eval (.tmp 77), a.eval (.tmp 78), a.eval (.tmp 79), a.eval (.tmp 80), a.eval (.tmp 81), a.eval (.tmp 82), a.eval (.tmp 83), a.eval (.tmp 84), a.eval (.tmp 85), a.eval (.tmp 86), a.eval (.tmp 87), a.eval (.tmp 88), a.eval (.tmp 89), a.eval (.tmp 90), a.eval (.tmp 91), a.eval (.tmp 92), a.eval (.tmp 93), a.eval (.tmp 94), a.eval (.tmp 95), a.eval (.tmp 96), a.eval (.tmp 97), a.eval (.tmp 98), a.eval (.tmp 99), a.eval (.tmp 100), a.eval (.tmp 101), a.eval (.tmp 102), a.eval (.tmp 103), a.eval (.tmp 104), a.eval (.tmp 105), a.eval (.tmp 106), a.eval (.tmp 107), a.eval (.tmp 108), a.eval (.tmp 109), a.eval (.tmp 110), a.eval (.tmp 111), a.eval (.tmp 112), a.eval (.tmp 113), a.eval (.tmp 114), a.eval (.tmp 115), a.eval (.tmp 116), a.eval (.tmp 117), a.eval (.tmp 118), a.eval (.tmp 119), a.eval (.tmp 120), a.eval (.tmp 121), a.eval (.tmp 122), a.eval (.tmp 123), a.eval (.tmp 124), a.eval (.tmp 125)], a.defers⟩ := act_eta a 126 (E.sz.trans hs0)
  rw [ea, E.df, hd0]
  have kY0 : a.eval (.tmp 0) = .pointer (some ⟨b, 0, none⟩) := (E.ag 0 (by decide)).trans gY0
  have kY1 : a.eval (.tmp 1) = t1 := (E.ag 1 (by decide)).trans gY1
  have kY2 : a.eval (.tmp 2) = t2 := (E.ag 2 (by decide)).trans gY2
  have kY3 : a.eval (.tmp 3) = t3 := (E.ag 3 (by decide)).trans gY3
  have kY4 : a.eval (.tmp 4) = t4 := (E.ag 4 (by decide)).trans gY4
  have kY5 : a.eval (.tmp 5) = t5 := (E.ag 5 (by decide)).trans gY5
  have kY6 : a.eval (.tmp 6) = t6 := (E.ag 6 (by decide)).trans gY6
  have kY7 : a.eval (.tmp 7) = t7 := (E.ag 7 (by decide)).trans gY7
  have kY8 : a.eval (.tmp 8) = t8 := (E.ag 8 (by decide)).trans gY8
  have kY9 : a.eval (.tmp 9) = t9 := (E.ag 9 (by decide)).trans gY9
  have kY10 : a.eval (.tmp 10) = t10 := (E.ag 10 (by decide)).trans gY10
  have kY11 : a.eval (.tmp 11) = t11 := (E.ag 11 (by decide)).trans gY11
  have kY12 : a.eval (.tmp 12) = .int .i64 (n1 : Int) := (E.ag 12 (by decide)).trans gY12
  have kY13 : a.eval (.tmp 13) = t13 := (E.ag 13 (by decide)).trans gY13
  have kY14 : a.eval (.tmp 14) = t14 := (E.ag 14 (by decide)).trans gY14
  have kY15 : a.eval (.tmp 15) = t15 := (E.ag 15 (by decide)).trans gY15
  have kY16 : a.eval (.tmp 16) = t16 := (E.ag 16 (by decide)).trans gY16
  have kY17 : a.eval (.tmp 17) = t17 := (E.ag 17 (by decide)).trans gY17
  have kY18 : a.eval (.tmp 18) = t18 := (E.ag 18 (by decide)).trans gY18
  have kY19 : a.eval (.tmp 19) = t19 := (E.ag 19 (by decide)).trans gY19
  have kY20 : a.eval (.tmp 20) = t20 := (E.ag 20 (by decide)).trans gY20
  have kY21 : a.eval (.tmp 21) = t21 := (E.ag 21 (by decide)).trans gY21
  have kY22 : a.eval (.tmp 22) = t22 := (E.ag 22 (by decide)).trans gY22
  have kY23 : a.eval (.tmp 23) = t23 := (E.ag 23 (by decide)).trans gY23
  have kY24 : a.eval (.tmp 24) = t24 := (E.ag 24 (by decide)).trans gY24
  have kY25 : a.eval (.tmp 25) = t25 := (E.ag 25 (by decide)).trans gY25
  have kY26 : a.eval (.tmp 26) = t26 := (E.ag 26 (by decide)).trans gY26
  have kY27 : a.eval (.tmp 27) = t27 := (E.ag 27 (by decide)).trans gY27
  have kY28 : a.eval (.tmp 28) = t28 := (E.ag 28 (by decide)).trans gY28
  have kY29 : a.eval (.tmp 29) = t29 := (E.ag 29 (by decide)).trans gY29
  have kY30 : a.eval (.tmp 30) = t30 := (E.ag 30 (by decide)).trans gY30
  have kY31 : a.eval (.tmp 31) = t31 := (E.ag 31 (by decide)).trans gY31
  have kY32 : a.eval (.tmp 32) = t32 := (E.ag 32 (by decide)).trans gY32
  have kY33 : a.eval (.tmp 33) = t33 := (E.ag 33 (by decide)).trans gY33
  have kY34 : a.eval (.tmp 34) = t34 := (E.ag 34 (by decide)).trans gY34
  have kY35 : a.eval (.tmp 35) = t35 := (E.ag 35 (by decide)).trans gY35
  have kY36 : a.eval (.tmp 36) = t36 := (E.ag 36 (by decide)).trans gY36
  have kY37 : a.eval (.tmp 37) = t37 := (E.ag 37 (by decide)).trans gY37
  have kY38 : a.eval (.tmp 38) = t38 := (E.ag 38 (by decide)).trans gY38
  have kY39 : a.eval (.tmp 39) = t39 := (E.ag 39 (by decide)).trans gY39
  have kY40 : a.eval (.tmp 40) = t40 := (E.ag 40 (by decide)).trans gY40
  have kY41 : a.eval (.tmp 41) = t41 := (E.ag 41 (by decide)).trans gY41
  have kY42 : a.eval (.tmp 42) = t42 := (E.ag 42 (by decide)).trans gY42
  have kY43 : a.eval (.tmp 43) = t43 := (E.ag 43 (by decide)).trans gY43
  have kY44 : a.eval (.tmp 44) = t44 := (E.ag 44 (by decide)).trans gY44
  have kY45 : a.eval (.tmp 45) = t45 := (E.ag 45 (by decide)).trans gY45
  have kY46 : a.eval (.tmp 46) = t46 := (E.ag 46 (by decide)).trans gY46
  have kY47 : a.eval (.tmp 47) = t47 := (E.ag 47 (by decide)).trans gY47
  have kY48 : a.eval (.tmp 48) = t48 := (E.ag 48 (by decide)).trans gY48
  have kY49 : a.eval (.tmp 49) = t49 := (E.ag 49 (by decide)).trans gY49
  have kY50 : a.eval (.tmp 50) = t50 := (E.ag 50 (by decide)).trans gY50
  have kY51 : a.eval (.tmp 51) = t51 := (E.ag 51 (by decide)).trans gY51
  have kY52 : a.eval (.tmp 52) = t52 := (E.ag 52 (by decide)).trans gY52
  have kY53 : a.eval (.tmp 53) = t53 := (E.ag 53 (by decide)).trans gY53
  have kY54 : a.eval (.tmp 54) = t54 := (E.ag 54 (by decide)).trans gY54
  have kY55 : a.eval (.tmp 55) = t55 := (E.ag 55 (by decide)).trans gY55
  have kY56 : a.eval (.tmp 56) = t56 := (E.ag 56 (by decide)).trans gY56
  have kY57 : a.eval (.tmp 57) = t57 := (E.ag 57 (by decide)).trans gY57
  have kY58 : a.eval (.tmp 58) = t58 := (E.ag 58 (by decide)).trans gY58
  have kY59 : a.eval (.tmp 59) = t59 := (E.ag 59 (by decide)).trans gY59
  have kY60 : a.eval (.tmp 60) = t60 := (E.ag 60 (by decide)).trans gY60
  have kY61 : a.eval (.tmp 61) = t61 := (E.ag 61 (by decide)).trans gY61
  have kY62 : a.eval (.tmp 62) = t62 := (E.ag 62 (by decide)).trans gY62
  have kY63 : a.eval (.tmp 63) = t63 := (E.ag 63 (by decide)).trans gY63
  have kY64 : a.eval (.tmp 64) = t64 := (E.ag 64 (by decide)).trans gY64
  have kY65 : a.eval (.tmp 65) = t65 := (E.ag 65 (by decide)).trans gY65
  have kY66 : a.eval (.tmp 66) = t66 := (E.ag 66 (by decide)).trans gY66
  have kY67 : a.eval (.tmp 67) = t67 := (E.ag 67 (by decide)).trans gY67
  have kY68 : a.eval (.tmp 68) = t68 := (E.ag 68 (by decide)).trans gY68
  have kY69 : a.eval (.tmp 69) = t69 := (E.ag 69 (by decide)).trans gY69
  have kY70 : a.eval (.tmp 70) = t70 := (E.ag 70 (by decide)).trans gY70
  have kY71 : a.eval (.tmp 71) = t71 := (E.ag 71 (by decide)).trans gY71
  have kY72 : a.eval (.tmp 72) = t72 := (E.ag 72 (by decide)).trans gY72
  have kY73 : a.eval (.tmp 73) = t73 := (E.ag 73 (by decide)).trans gY73
  have kY74 : a.eval (.tmp 74) = t74 := (E.ag 74 (by decide)).trans gY74
  have kY75 : a.eval (.tmp 75) = t75 := (E.ag 75 (by decide)).trans gY75
  have kY76 : a.eval (.tmp 76) = t76 := (E.ag 76 (by decide)).trans gY76
  have kY77 : a.eval (.tmp 77) = t77 := (E.ag 77 (by decide)).trans gY77
  have kY78 : a.eval (.tmp 78) = t78 := (E.ag 78 (by decide)).trans gY78
  have kY79 : a.eval (.tmp 79) = t79 := (E.ag 79 (by decide)).trans gY79
  have kY80 : a.eval (.tmp 80) = t80 := (E.ag 80 (by decide)).trans gY80
  have kY81 : a.eval (.tmp 81) = t81 := (E.ag 81 (by decide)).trans gY81
  have kY82 : a.eval (.tmp 82) = t82 := (E.ag 82 (by decide)).trans gY82
  have kY83 : a.eval (.tmp 83) = t83 := (E.ag 83 (by decide)).trans gY83
  have kY84 : a.eval (.tmp 84) = t84 := (E.ag 84 (by decide)).trans gY84
  have kY85 : a.eval (.tmp 85) = t85 := (E.ag 85 (by decide)).trans gY85
  have kY86 : a.eval (.tmp 86) = t86 := (E.ag 86 (by decide)).trans gY86
  have kY87 : a.eval (.tmp 87) = t87 := (E.ag 87 (by decide)).trans gY87
  have kY88 : a.eval (.tmp 88) = t88 := (E.ag 88 (by decide)).trans gY88
  have kY89 : a.eval (.tmp 89) = t89 := (E.ag 89 (by decide)).trans gY89
  have kY90 : a.eval (.tmp 90) = t90 := (E.ag 90 (by decide)).trans gY90
  have kY91 : a.eval (.tmp 91) = t91 := (E.ag 91 (by decide)).trans gY91
  have kY92 : a.eval (.tmp 92) = t92 := (E.ag 92 (by decide)).trans gY92
  have kY93 : a.eval (.tmp 93) = t93 := (E.ag 93 (by decide)).trans gY93
  have kY94 : a.eval (.tmp 94) = t94 := (E.ag 94 (by decide)).trans gY94
  have kY95 : a.eval (.tmp 95) = t95 := (E.ag 95 (by decide)).trans gY95
  have kY96 : a.eval (.tmp 96) = t96 := (E.ag 96 (by decide)).trans gY96
  have kY97 : a.eval (.tmp 97) = t97 := (E.ag 97 (by decide)).trans gY97
  have kY111 : a.eval (.tmp 111) = .int .i64 (C.length : Int) := E.vs 13 (by decide) trivial
  have kY112 : a.eval (.tmp 112) = .int .i64 0 := E.vs 14 (by decide) trivial
  have kY113 : a.eval (.tmp 113) = t113 := (E.ag 113 (by decide)).trans gY113
  have kY114 : a.eval (.tmp 114) = t114 := (E.ag 114 (by decide)).trans gY114
  have kY115 : a.eval (.tmp 115) = t115 := (E.ag 115 (by decide)).trans gY115
  have kY116 : a.eval (.tmp 116) = t116 := (E.ag 116 (by decide)).trans gY116
  have kY117 : a.eval (.tmp 117) = t117 := (E.ag 117 (by decide)).trans gY117
  have kY118 : a.eval (.tmp 118) = t118 := (E.ag 118 (by decide)).trans gY118
  have kY119 : a.eval (.tmp 119) = t119 := (E.ag 119 (by decide)).trans gY119
  have kY120 : a.eval (.tmp 120) = t120 := (E.ag 120 (by decide)).trans gY120
  have kY121 : a.eval (.tmp 121) = t121 := (E.ag 121 (by decide)).trans gY121
  have kY122 : a.eval (.tmp 122) = t122 := (E.ag 122 (by decide)).trans gY122
  have kY123 : a.eval (.tmp 123) = t123 := (E.ag 123 (by decide)).trans gY123
  have kY124 : a.eval (.tmp 124) = t124 := (E.ag 124 (by decide)).trans gY124
  have kY125 : a.eval (.tmp 125) = t125 := (E.ag 125 (by decide)).trans gY125
  rw [kY0, kY1, kY2, kY3, kY4, kY5, kY6, kY7, kY8, kY9, kY10, kY11, kY12, kY13, kY14, kY15, kY16, kY17, kY18, kY19, kY20, kY21, kY22, kY23, kY24, kY25, kY26, kY27, kY28, kY29, kY30, kY31, kY32, kY33, kY34, kY35, kY36, kY37, kY38, kY39, kY40, kY41, kY42, kY43, kY44, kY45, kY46, kY47, kY48, kY49, kY50, kY51, kY52, kY53, kY54, kY55, kY56, kY57, kY58, kY59, kY60, kY61, kY62, kY63, kY64, kY65, kY66, kY67, kY68, kY69, kY70, kY71, kY72, kY73, kY74, kY75, kY76, kY77, kY78, kY79, kY80, kY81, kY82, kY83, kY84, kY85, kY86, kY87, kY88, kY89, kY90, kY91, kY92, kY93, kY94, kY95, kY96, kY97, kY111, kY112, kY113, kY114, kY115, kY116, kY117, kY118, kY119, kY120, kY121, kY122, kY123, kY124, kY125]
  exact hq

end Go.Proofs.Ytepmdnggiajkbaa
