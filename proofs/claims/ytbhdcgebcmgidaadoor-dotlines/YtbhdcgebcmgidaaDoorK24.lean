/-
  Some texts of this seat, one behind the other.
-/
import Derived.RangeFuncBox
import Derived.Test.YtbhdcgebcmgidaaDoorK22
import Derived.Test.YtbhdcgebcmgidaaDoorK23
import Derived.Test.YtbhdcgebcmgidaaDoorTStr
/-
  The writer's lines: what the iterators are that it hands on.
-/
namespace Go.Proofs.YtbhdcgebcmgidaaDoor
open Go.RowKit

theorem these_any (q n : Nat) (w : World) : Calls Tryd.prog 46 #[.slice (some ⟨q, 0, none⟩) n n] w fun e w' => e = .returned (.func (.func 59) #[] #[ptr w.heap.size]) ∧ w' = w.alloc (.cells #[.slice (some ⟨q, 0, none⟩) n n] 47) := by
  have hv : Calls Tryd.prog 53 #[.slice (some ⟨q, 0, none⟩) n n] w fun e w' => e = .returned (.func (.func 59) #[] #[ptr w.heap.size]) ∧ w' = w.alloc (.cells #[.slice (some ⟨q, 0, none⟩) n n] 47) := by
    go_enter Tryd.func53, Tryd.ntmps53
    go_wp2
    go_ret
    exact ⟨rfl, rfl⟩
  go_enter Tryd.func46, Tryd.ntmps46
  go_wp2_with fail
  refine hv.mono ?_
  rintro e w1 ⟨rfl, rfl⟩
  go_wp2
  go_ret
  exact ⟨rfl, rfl⟩
theorem each_any (n : Int) (f : Nat) (rv : Value) (w : World) : Calls Tryd.prog 47 #[.int .i64 n, .func (.func f) #[rv] #[]] w fun e w' => e = .returned (.func (.func 54) #[] #[ptr w.heap.size, ptr (w.heap.size + 1)]) ∧ w' = (w.alloc (.cells #[.int .i64 n] 3)).alloc (.cells #[.func (.func f) #[rv] #[]] 50) := by
  go_enter Tryd.func47, Tryd.ntmps47
  go_wp2
  go_ret
  exact ⟨rfl, rfl⟩
theorem behind_any (q n : Nat) (w : World) : Calls Tryd.prog 45 #[.slice (some ⟨q, 0, none⟩) n n] w fun e w' => e = .returned (.func (.func 52) #[] #[ptr w.heap.size]) ∧ w' = w.alloc (.cells #[.slice (some ⟨q, 0, none⟩) n n] 81) := by
  go_enter Tryd.func45, Tryd.ntmps45
  go_wp2
  go_ret
  exact ⟨rfl, rfl⟩

/-! ### What the slots hold -/
/-- A slice of texts. -/
def IsS (N : Nat) (xs : List (List UInt8)) (v : Value) (W : World) : Prop := ∃ q, v = .slice (some ⟨q, 0, none⟩) xs.length xs.length ∧ N ≤ q ∧ Bk W q (xs.map bsV) 9
/-- Its iterator. -/
def IsT (N : Nat) (xs : List (List UInt8)) (v : Value) (W : World) : Prop := ∃ b q, v = .func (.func 59) #[] #[ptr b] ∧ N ≤ b ∧ N ≤ q ∧ Bk W b [.slice (some ⟨q, 0, none⟩) xs.length xs.length] 47 ∧ Bk W q (xs.map bsV) 9
/-- The iterator of what a function tells. -/
def IsE (N : Nat) (n : Nat) (fv : Value) (v : Value) (W : World) : Prop := ∃ b c, v = .func (.func 54) #[] #[ptr b, ptr c] ∧ N ≤ b ∧ N ≤ c ∧ Bk W b [.int .i64 (n : Int)] 3 ∧ Bk W c [fv] 50
/-- Five parts. -/
def IsF (N : Nat) (x1 : List (List UInt8)) (n2 : Nat) (f2 : Value) (x3 : List (List UInt8)) (n4 : Nat) (f4 : Value) (x5 : List (List UInt8)) (vs : List Value) (W : World) : Prop :=
  ∃ v1 v2 v3 v4 v5, vs = [v1, v2, v3, v4, v5] ∧ IsT N x1 v1 W ∧ IsE N n2 f2 v2 W ∧ IsT N x3 v3 W ∧ IsE N n4 f4 v4 W ∧ IsT N x5 v5 W
section
variable {N : Nat} {xs : List (List UInt8)} {n : Nat} {fv v : Value} {W W' : World}
theorem IsS.below (h : IsS N xs v W) (hb : Below W.heap.size W W') : IsS N xs v W' := by
  obtain ⟨q, e, h1, h2⟩ := h; exact ⟨q, e, h1, h2.below hb⟩
theorem IsT.below (h : IsT N xs v W) (hb : Below W.heap.size W W') : IsT N xs v W' := by
  obtain ⟨b, q, e, h1, h2, h3, h4⟩ := h; exact ⟨b, q, e, h1, h2, h3.below hb, h4.below hb⟩
theorem IsE.below (h : IsE N n fv v W) (hb : Below W.heap.size W W') : IsE N n fv v W' := by
  obtain ⟨b, q, e, h1, h2, h3, h4⟩ := h; exact ⟨b, q, e, h1, h2, h3.below hb, h4.below hb⟩
theorem IsF.below {x1 : List (List UInt8)} {n2 : Nat} {f2 : Value} {x3 : List (List UInt8)} {n4 : Nat} {f4 : Value} {x5 : List (List UInt8)} {vs : List Value} (h : IsF N x1 n2 f2 x3 n4 f4 x5 vs W) (hb : Below W.heap.size W W') : IsF N x1 n2 f2 x3 n4 f4 x5 vs W' := by
  obtain ⟨v1, v2, v3, v4, v5, e, h1, h2, h3, h4, h5⟩ := h; exact ⟨v1, v2, v3, v4, v5, e, h1.below hb, h2.below hb, h3.below hb, h4.below hb, h5.below hb⟩
end
def hdL : List (List UInt8) := [[100, 105, 103, 114, 97, 112, 104, 32, 109, 32, 123], [32, 32] ++ dRank, [32, 32] ++ dStart]
def goL : List (List UInt8) := [[32, 32] ++ dGo]
def edL : List (List UInt8) := [[125]]

/-- What each operation of the statement yields. -/
def LT (N : Nat) (bx : Nat) (wv : Value) (n K : Nat) : Nat → Value → World → Prop
  | 0, v, W => IsS N hdL v W
  | 1, v, W => IsT N hdL v W
  | 2, v, _ => v = .pointer (some ⟨bx, 0, none⟩)
  | 3, v, _ => v = .pointer (some ⟨bx, 3, none⟩)
  | 4, v, _ => v = .int .i64 (n : Int)
  | 5, v, _ => v = wv
  | 6, v, _ => v = .func (.func 48) #[wv] #[]
  | 7, v, W => IsE N n (.func (.func 48) #[wv] #[]) v W
  | 8, v, W => IsS N goL v W
  | 9, v, W => IsT N goL v W
  | 10, v, _ => v = .pointer (some ⟨bx, 0, none⟩)
  | 11, v, _ => v = .pointer (some ⟨bx, 3, none⟩)
  | 12, v, _ => v = .int .i64 (n : Int)
  | 13, v, _ => v = .pointer (some ⟨bx, 0, none⟩)
  | 14, v, _ => v = .pointer (some ⟨bx, 1, none⟩)
  | 15, v, _ => v = .int .i64 (K : Int)
  | 16, v, _ => v = .int .i64 ((n * K : Nat) : Int)
  | 17, v, _ => v = wv
  | 18, v, _ => v = .func (.func 49) #[wv] #[]
  | 19, v, W => IsE N (n * K) (.func (.func 49) #[wv] #[]) v W
  | 20, v, W => IsS N edL v W
  | 21, v, W => IsT N edL v W
  | 22, v, W => ∃ q vs, v = .slice (some ⟨q, 0, none⟩) 5 5 ∧ N ≤ q ∧ Bk W q vs 66 ∧ IsF N hdL n (.func (.func 48) #[wv] #[]) goL (n * K) (.func (.func 49) #[wv] #[]) edL vs W
  | _, v, W => ∃ b q vs, v = .func (.func 52) #[] #[ptr b] ∧ N ≤ b ∧ N ≤ q ∧ Bk W b [.slice (some ⟨q, 0, none⟩) 5 5] 81 ∧ Bk W q vs 66 ∧ IsF N hdL n (.func (.func 48) #[wv] #[]) goL (n * K) (.func (.func 49) #[wv] #[]) edL vs W
theorem LT.below {N bx : Nat} {wv : Value} {n K : Nat} {v : Value} {W W' : World} (hb : Below W.heap.size W W') : ∀ {i : Nat}, LT N bx wv n K i v W → LT N bx wv n K i v W'
  | 0, h => IsS.below h hb
  | 1, h => IsT.below h hb
  | 2, h => h
  | 3, h => h
  | 4, h => h
  | 5, h => h
  | 6, h => h
  | 7, h => IsE.below h hb
  | 8, h => IsS.below h hb
  | 9, h => IsT.below h hb
  | 10, h => h
  | 11, h => h
  | 12, h => h
  | 13, h => h
  | 14, h => h
  | 15, h => h
  | 16, h => h
  | 17, h => h
  | 18, h => h
  | 19, h => IsE.below h hb
  | 20, h => IsS.below h hb
  | 21, h => IsT.below h hb
  | 22, ⟨q, vs, e, h1, h2, h3⟩ => ⟨q, vs, e, h1, h2.below hb, h3.below hb⟩
  | _ + 23, ⟨b, q, vs, e, h1, h2, h3, h4, h5⟩ => ⟨b, q, vs, e, h1, h2, h3.below hb, h4.below hb, h5.below hb⟩

theorem run_mul {a : Act} {o : Oper} {x y : Operand} {X K : Nat} {w : World} (ho : o.op = .binOp .mul 3 x y 3) (hx : a.eval x = .int .i64 (X : Int)) (hy : a.eval y = .int .i64 (K : Int)) (hX : X * K ≤ 1000000) : (execOp a.eval o).run Tryd.prog w = .ok (.value (.int .i64 ((X * K : Nat) : Int))) w := by
  have h3 : (binOp .mul 3 (.int .i64 (X : Int)) (.int .i64 (K : Int))).run Tryd.prog w = .ok (.int .i64 ((X * K : Nat) : Int)) w := by
    go_simp
    have h4 : (X : Int) * (K : Int) = ((X * K : Nat) : Int) := rfl
    rw [h4]
    generalize X * K = d at hX ⊢
    rw [IntWalk.i64_in _ (by omega)]
  simp only [execOp, ho, hx, hy, eqGuard]
  simp [h3, Result.andThen]
theorem loadWr {w : World} {b : Nat} {m : Mc} {a1 : Option Addr} {c1 : Nat} {a2 : Option Addr} {c2 : Nat} {s l : Value} (h : Bk w b (wrC m a1 c1 a2 c2 s l) 52) : (Instr.loadAt 52 (.pointer (some ⟨b, 0, none⟩))).run Tryd.prog w = .ok (wrV m a1 c1 a2 c2 s l) w := by
  have p0 := h.cell 0
  have p1 := h.cell 1
  have p2 := h.cell 2
  have p3 := h.cell 3
  have p4 := h.cell 4
  have p5 := h.cell 5
  have p6 := h.cell 6
  have p7 := h.cell 7
  simp only [wrC, List.getElem?_cons_succ, List.getElem?_cons_zero] at p0 p1 p2 p3 p4 p5 p6 p7
  unfold wrV
  go_simp
/-- A slice of known parts is made. -/
theorem run_three (w : World) (x y z : ByteArray) : (Instr.buildSlice 47 3 #[(0, .string x), (1, .string y), (2, .string z)]).run Tryd.prog w = .ok (.slice (some ⟨w.heap.size, 0, none⟩) 3 3) (w.alloc (.cells #[.string x, .string y, .string z] 9)) := by
  go_simp
theorem run_one (w : World) (x : ByteArray) : (Instr.buildSlice 47 1 #[(0, .string x)]).run Tryd.prog w = .ok (.slice (some ⟨w.heap.size, 0, none⟩) 1 1) (w.alloc (.cells #[.string x] 9)) := by
  go_simp
theorem run_five (w : World) (g1 g2 g3 g4 g5 : Fn) (x1 x2 x3 x4 x5 : Array Value) : (Instr.buildSlice 81 5 #[(0, .func g1 #[] x1), (1, .func g2 #[] x2), (2, .func g3 #[] x3), (3, .func g4 #[] x4), (4, .func g5 #[] x5)]).run Tryd.prog w = .ok (.slice (some ⟨w.heap.size, 0, none⟩) 5 5) (w.alloc (.cells #[.func g1 #[] x1, .func g2 #[] x2, .func g3 #[] x3, .func g4 #[] x4, .func g5 #[] x5] 66)) := by
  go_simp

def li0 : Oper := { dst := some 3, op := Op.buildSlice 47 3 #[(0, Operand.const (Value.string { data := #[100, 105, 103, 114, 97, 112, 104, 32, 109, 32, 123] })), (1, Operand.const (Value.string { data := #[32, 32, 114, 97, 110, 107, 100, 105, 114, 61, 76, 82] })), (2, Operand.const (Value.string { data := #[32, 32, 115, 116, 97, 114, 116, 32, 91, 115, 104, 97, 112, 101, 61, 112, 111, 105, 110, 116, 93] }))], type := 47, pos := "write.go:64", after := #[], guard := none }
def li1 : Oper := { dst := some 4, op := Op.call { callee := Callee.value (Operand.func 46), args := #[Operand.tmp 3], argTypes := #[47] }, type := 66, pos := "write.go:65", after := #[{ on := 0, ground := Ground.data }], guard := none }
def li2 : Oper := { dst := some 5, op := Op.fieldAddr 52 (Operand.tmp 1) 0, type := 0, pos := "write.go:64", after := #[], guard := none }
def li3 : Oper := { dst := some 6, op := Op.fieldAddr 24 (Operand.tmp 5) 3, type := 0, pos := "write.go:64", after := #[{ on := 2, ground := Ground.data }], guard := none }
def li4 : Oper := { dst := some 7, op := Op.load 3 (Operand.tmp 6), type := 3, pos := "write.go:64", after := #[{ on := 3, ground := Ground.data }], guard := none }
def li5 : Oper := { dst := some 8, op := Op.load 52 (Operand.tmp 1), type := 52, pos := "write.go:64", after := #[], guard := none }
def li6 : Oper := { dst := some 9, op := Op.makeFunc (Fn.func 48) #[Operand.tmp 8] #[], type := 50, pos := "write.go:64", after := #[{ on := 5, ground := Ground.data }], guard := none }
def li7 : Oper := { dst := some 10, op := Op.call { callee := Callee.value (Operand.func 47), args := #[Operand.tmp 7, Operand.tmp 9], argTypes := #[3, 50] }, type := 66, pos := "write.go:66", after := #[{ on := 4, ground := Ground.data }, { on := 6, ground := Ground.data }, { on := 1, ground := Ground.chain }], guard := none }
def li8 : Oper := { dst := some 11, op := Op.buildSlice 47 1 #[(0, Operand.const (Value.string { data := #[32, 32, 115, 116, 97, 114, 116, 32, 45, 62, 32, 48] }))], type := 47, pos := "write.go:64", after := #[], guard := none }
def li9 : Oper := { dst := some 12, op := Op.call { callee := Callee.value (Operand.func 46), args := #[Operand.tmp 11], argTypes := #[47] }, type := 66, pos := "write.go:67", after := #[{ on := 8, ground := Ground.data }, { on := 7, ground := Ground.chain }], guard := none }
def li10 : Oper := { dst := some 13, op := Op.fieldAddr 52 (Operand.tmp 1) 0, type := 0, pos := "write.go:64", after := #[], guard := none }
def li11 : Oper := { dst := some 14, op := Op.fieldAddr 24 (Operand.tmp 13) 3, type := 0, pos := "write.go:64", after := #[{ on := 10, ground := Ground.data }], guard := none }
def li12 : Oper := { dst := some 15, op := Op.load 3 (Operand.tmp 14), type := 3, pos := "write.go:64", after := #[{ on := 11, ground := Ground.data }], guard := none }
def li13 : Oper := { dst := some 16, op := Op.fieldAddr 52 (Operand.tmp 1) 0, type := 0, pos := "write.go:64", after := #[], guard := none }
def li14 : Oper := { dst := some 17, op := Op.fieldAddr 24 (Operand.tmp 16) 1, type := 0, pos := "write.go:64", after := #[{ on := 13, ground := Ground.data }], guard := none }
def li15 : Oper := { dst := some 18, op := Op.load 3 (Operand.tmp 17), type := 3, pos := "write.go:64", after := #[{ on := 14, ground := Ground.data }], guard := none }
def li16 : Oper := { dst := some 19, op := Op.binOp BinOp.mul 3 (Operand.tmp 15) (Operand.tmp 18) 3, type := 3, pos := "write.go:64", after := #[{ on := 12, ground := Ground.data }, { on := 15, ground := Ground.data }], guard := none }
def li17 : Oper := { dst := some 20, op := Op.load 52 (Operand.tmp 1), type := 52, pos := "write.go:64", after := #[], guard := none }
def li18 : Oper := { dst := some 21, op := Op.makeFunc (Fn.func 49) #[Operand.tmp 20] #[], type := 50, pos := "write.go:64", after := #[{ on := 17, ground := Ground.data }], guard := none }
def li19 : Oper := { dst := some 22, op := Op.call { callee := Callee.value (Operand.func 47), args := #[Operand.tmp 19, Operand.tmp 21], argTypes := #[3, 50] }, type := 66, pos := "write.go:68", after := #[{ on := 16, ground := Ground.data }, { on := 18, ground := Ground.data }, { on := 9, ground := Ground.chain }], guard := none }
def li20 : Oper := { dst := some 23, op := Op.buildSlice 47 1 #[(0, Operand.const (Value.string { data := #[125] }))], type := 47, pos := "write.go:64", after := #[], guard := none }
def li21 : Oper := { dst := some 24, op := Op.call { callee := Callee.value (Operand.func 46), args := #[Operand.tmp 23], argTypes := #[47] }, type := 66, pos := "write.go:69", after := #[{ on := 20, ground := Ground.data }, { on := 19, ground := Ground.chain }], guard := none }
def li22 : Oper := { dst := some 25, op := Op.buildSlice 81 5 #[(0, Operand.tmp 4), (1, Operand.tmp 10), (2, Operand.tmp 12), (3, Operand.tmp 22), (4, Operand.tmp 24)], type := 81, pos := "write.go:64", after := #[{ on := 1, ground := Ground.data }, { on := 7, ground := Ground.data }, { on := 9, ground := Ground.data }, { on := 19, ground := Ground.data }, { on := 21, ground := Ground.data }], guard := none }
def li23 : Oper := { dst := some 26, op := Op.call { callee := Callee.value (Operand.func 45), args := #[Operand.tmp 25], argTypes := #[81] }, type := 66, pos := "write.go:64", after := #[{ on := 22, ground := Ground.data }, { on := 21, ground := Ground.chain }], guard := none }
def li24 : Oper := { dst := some 2, op := Op.assign (Operand.tmp 26), type := 66, pos := "write.go:64", after := #[{ on := 23, ground := Ground.data }, { on := 23, ground := Ground.chain }, { on := 0, ground := Ground.phase }, { on := 1, ground := Ground.phase }, { on := 2, ground := Ground.phase }, { on := 3, ground := Ground.phase }, { on := 4, ground := Ground.phase }, { on := 5, ground := Ground.phase }, { on := 6, ground := Ground.phase }, { on := 7, ground := Ground.phase }, { on := 8, ground := Ground.phase }, { on := 9, ground := Ground.phase }, { on := 10, ground := Ground.phase }, { on := 11, ground := Ground.phase }, { on := 12, ground := Ground.phase }, { on := 13, ground := Ground.phase }, { on := 14, ground := Ground.phase }, { on := 15, ground := Ground.phase }, { on := 16, ground := Ground.phase }, { on := 17, ground := Ground.phase }, { on := 18, ground := Ground.phase }, { on := 19, ground := Ground.phase }, { on := 20, ground := Ground.phase }, { on := 21, ground := Ground.phase }, { on := 22, ground := Ground.phase }, { on := 23, ground := Ground.phase }], guard := none }
def liOps : Array Oper := #[li0, li1, li2, li3, li4, li5, li6, li7, li8, li9, li10, li11, li12, li13, li14, li15, li16, li17, li18, li19, li20, li21, li22, li23, li24]

theorem li_ok : okB liOps [3, 4, 5, 6, 7, 8, 9, 10, 11, 12, 13, 14, 15, 16, 17, 18, 19, 20, 21, 22, 23, 24, 25, 26, 2] = true := by kernel_rfl
set_option maxRecDepth 100000 in
set_option maxHeartbeats 2000000 in
theorem li_region {Q : Exit → Act → World → Prop} (a0 : Act) (W : World) (N bx n K : Nat) (m : Mc) (a1 : Option Addr) (c1 : Nat) (a2 : Option Addr) (c2 : Nat) (fs : Nat) (ls : Array Value) (fl : Nat) (ll : Array Value) (hsz : a0.tmps.size = 27)
    (e1 : a0.eval (.tmp 1) = .pointer (some ⟨bx, 0, none⟩)) (hb : Bk W bx (wrC m a1 c1 a2 c2 (.func (.func fs) #[] ls) (.func (.func fl) #[] ll)) 52) (hn : m.n = (n : Int)) (hk : m.k = (K : Int)) (hnk : n * K ≤ 1000000) (hN : N ≤ W.heap.size)
    (fin : ∀ a X, Below W.heap.size W X → a.defers = a0.defers → LT N bx (wrV m a1 c1 a2 c2 (.func (.func fs) #[] ls) (.func (.func fl) #[] ll)) n K 24 (a.eval (.tmp 2)) X → Q .normal a X) : (Code.region 1 liOps true).wp Tryd.prog Q a0 W := by
  refine wp_region_vals (by kernel_rfl) a0 W 25 (fun i => [3, 4, 5, 6, 7, 8, 9, 10, 11, 12, 13, 14, 15, 16, 17, 18, 19, 20, 21, 22, 23, 24, 25, 26, 2].getD i 0) (LT N bx (wrV m a1 c1 a2 c2 (.func (.func fs) #[] ls) (.func (.func fl) #[] ll)) n K) rfl (fun _ _ _ _ h hb => h.below hb) (by decide) (by rw [hsz]; decide) (hd_of li_ok) ?_ ?_
  · intro j o ho a X E haft KK hKK
    have hj : j < 25 := (Array.getElem?_eq_some_iff.1 ho).1
    replace e1 : a.eval (.tmp 1) = .pointer (some ⟨bx, 0, none⟩) := (E.ag 1 (by decide)).trans e1
    have r := Below.refl X.heap.size X
    have bl := E.bl
    have hNX : N ≤ X.heap.size := Nat.le_trans hN bl.size
    clear E
    have hbX := hb.below bl
    have q3 := hbX.cell 3
    have q1 := hbX.cell 1
    simp only [wrC, List.getElem?_cons_succ, List.getElem?_cons_zero] at q1 q3
    rw [hn] at q3
    rw [hk] at q1
    have bal := fun o => ballo X o
    rcases (by omega : j = 0 ∨ j = 1 ∨ j = 2 ∨ j = 3 ∨ j = 4 ∨ j = 5 ∨ j = 6 ∨ j = 7 ∨ j = 8 ∨ j = 9 ∨ j = 10 ∨ j = 11 ∨ j = 12 ∨ j = 13 ∨ j = 14 ∨ j = 15 ∨ j = 16 ∨ j = 17 ∨ j = 18 ∨ j = 19 ∨ j = 20 ∨ j = 21 ∨ j = 22 ∨ j = 23 ∨ j = 24) with rfl | rfl | rfl | rfl | rfl | rfl | rfl | rfl | rfl | rfl | rfl | rfl | rfl | rfl | rfl | rfl | rfl | rfl | rfl | rfl | rfl | rfl | rfl | rfl | rfl
    · obtain rfl : li0 = o := Option.some.inj ho
      refine wp_valueZ (v := .slice (some ⟨X.heap.size, 0, none⟩) 3 3) (w' := X.alloc (.cells (hdL.map bsV).toArray 9)) ?_ (hKK _ _ (bal _) ⟨_, rfl, hNX, Bk.new X _ _⟩)
      simp [execOp, li0, Act.eval, run_three]
      rfl
    · obtain rfl : li1 = o := Option.some.inj ho
      obtain ⟨q, dq, hq1, hq2⟩ : LT N bx (wrV m a1 c1 a2 c2 (.func (.func fs) #[] ls) (.func (.func fl) #[] ll)) n K 0 (a.eval (.tmp 3)) X := haft ⟨0, .data⟩ (by simp [li1]) rfl
      have hc := these_any q hdL.length X
      refine wp_enterZ (run_call1 rfl (enters_of Tryd.func46 (by kernel_rfl) rfl) dq) hc ?_
      rintro e X' ⟨rfl, rfl⟩
      exact ⟨_, rfl, hKK _ _ (bal _) ⟨_, q, rfl, hNX, hq1, Bk.new X [_] _, hq2.below (bal _)⟩⟩
    · obtain rfl : li2 = o := Option.some.inj ho
      exact wp_valueZ (v := .pointer (some ⟨bx, 0, none⟩)) (w' := X) (by simp [execOp, li2, e1, fldW.1]) (hKK _ _ r rfl)
    · obtain rfl : li3 = o := Option.some.inj ho
      have d0 : a.eval (.tmp 5) = .pointer (some ⟨bx, 0, none⟩) := haft ⟨2, .data⟩ (by simp [li3]) rfl
      exact wp_valueZ (v := .pointer (some ⟨bx, 3, none⟩)) (w' := X) (by simp [execOp, li3, d0, fldM]) (hKK _ _ r rfl)
    · obtain rfl : li4 = o := Option.some.inj ho
      have d0 : a.eval (.tmp 6) = .pointer (some ⟨bx, 3, none⟩) := haft ⟨3, .data⟩ (by simp [li4]) rfl
      exact wp_valueZ (v := .int .i64 (n : Int)) (w' := X) (by simp [execOp, li4, d0, loadI q3]) (hKK _ _ r rfl)
    · obtain rfl : li5 = o := Option.some.inj ho
      exact wp_valueZ (v := wrV m a1 c1 a2 c2 (.func (.func fs) #[] ls) (.func (.func fl) #[] ll)) (w' := X) (by simp [execOp, li5, e1, loadWr hbX]) (hKK _ _ r rfl)
    · obtain rfl : li6 = o := Option.some.inj ho
      have d0 : a.eval (.tmp 8) = wrV m a1 c1 a2 c2 (.func (.func fs) #[] ls) (.func (.func fl) #[] ll) := haft ⟨5, .data⟩ (by simp [li6]) rfl
      exact wp_valueZ (v := .func (.func 48) #[wrV m a1 c1 a2 c2 (.func (.func fs) #[] ls) (.func (.func fl) #[] ll)] #[]) (w' := X) (by simp [execOp, li6, d0, Instr.makeFunc]) (hKK _ _ r rfl)
    · obtain rfl : li7 = o := Option.some.inj ho
      have d0 : a.eval (.tmp 7) = .int .i64 (n : Int) := haft ⟨4, .data⟩ (by simp [li7]) rfl
      have d1 : a.eval (.tmp 9) = .func (.func 48) #[wrV m a1 c1 a2 c2 (.func (.func fs) #[] ls) (.func (.func fl) #[] ll)] #[] := haft ⟨6, .data⟩ (by simp [li7]) rfl
      have hc := each_any ((n : Int)) 48 (wrV m a1 c1 a2 c2 (.func (.func fs) #[] ls) (.func (.func fl) #[] ll)) X
      refine wp_enterZ (run_call2Z rfl (enters_of Tryd.func47 (by kernel_rfl) rfl) d0 d1) hc ?_
      rintro e X' ⟨rfl, rfl⟩
      have b2 := bal (.cells #[.int .i64 (n : Int)] 3)
      have b3 := ballo (X.alloc (.cells #[.int .i64 (n : Int)] 3)) (.cells #[.func (.func 48) #[wrV m a1 c1 a2 c2 (.func (.func fs) #[] ls) (.func (.func fl) #[] ll)] #[]] 50)
      refine ⟨_, rfl, hKK _ _ (bstep b2 b3) ⟨_, _, rfl, hNX, Nat.le_succ_of_le hNX, (Bk.new X [_] _).below b3, ?_⟩⟩
      have := Bk.new (X.alloc (.cells #[.int .i64 (n : Int)] 3)) [.func (.func 48) #[wrV m a1 c1 a2 c2 (.func (.func fs) #[] ls) (.func (.func fl) #[] ll)] #[]] 50
      rw [World.size_alloc] at this
      exact this
    · obtain rfl : li8 = o := Option.some.inj ho
      refine wp_valueZ (v := .slice (some ⟨X.heap.size, 0, none⟩) 1 1) (w' := X.alloc (.cells (goL.map bsV).toArray 9)) ?_ (hKK _ _ (bal _) ⟨_, rfl, hNX, Bk.new X _ _⟩)
      simp [execOp, li8, Act.eval, run_one]
      rfl
    · obtain rfl : li9 = o := Option.some.inj ho
      obtain ⟨q, dq, hq1, hq2⟩ : LT N bx (wrV m a1 c1 a2 c2 (.func (.func fs) #[] ls) (.func (.func fl) #[] ll)) n K 8 (a.eval (.tmp 11)) X := haft ⟨8, .data⟩ (by simp [li9]) rfl
      have hc := these_any q goL.length X
      refine wp_enterZ (run_call1 rfl (enters_of Tryd.func46 (by kernel_rfl) rfl) dq) hc ?_
      rintro e X' ⟨rfl, rfl⟩
      exact ⟨_, rfl, hKK _ _ (bal _) ⟨_, q, rfl, hNX, hq1, Bk.new X [_] _, hq2.below (bal _)⟩⟩
    · obtain rfl : li10 = o := Option.some.inj ho
      exact wp_valueZ (v := .pointer (some ⟨bx, 0, none⟩)) (w' := X) (by simp [execOp, li10, e1, fldW.1]) (hKK _ _ r rfl)
    · obtain rfl : li11 = o := Option.some.inj ho
      have d0 : a.eval (.tmp 13) = .pointer (some ⟨bx, 0, none⟩) := haft ⟨10, .data⟩ (by simp [li11]) rfl
      exact wp_valueZ (v := .pointer (some ⟨bx, 3, none⟩)) (w' := X) (by simp [execOp, li11, d0, fldM]) (hKK _ _ r rfl)
    · obtain rfl : li12 = o := Option.some.inj ho
      have d0 : a.eval (.tmp 14) = .pointer (some ⟨bx, 3, none⟩) := haft ⟨11, .data⟩ (by simp [li12]) rfl
      exact wp_valueZ (v := .int .i64 (n : Int)) (w' := X) (by simp [execOp, li12, d0, loadI q3]) (hKK _ _ r rfl)
    · obtain rfl : li13 = o := Option.some.inj ho
      exact wp_valueZ (v := .pointer (some ⟨bx, 0, none⟩)) (w' := X) (by simp [execOp, li13, e1, fldW.1]) (hKK _ _ r rfl)
    · obtain rfl : li14 = o := Option.some.inj ho
      have d0 : a.eval (.tmp 16) = .pointer (some ⟨bx, 0, none⟩) := haft ⟨13, .data⟩ (by simp [li14]) rfl
      exact wp_valueZ (v := .pointer (some ⟨bx, 1, none⟩)) (w' := X) (by simp [execOp, li14, d0, fldM]) (hKK _ _ r rfl)
    · obtain rfl : li15 = o := Option.some.inj ho
      have d0 : a.eval (.tmp 17) = .pointer (some ⟨bx, 1, none⟩) := haft ⟨14, .data⟩ (by simp [li15]) rfl
      exact wp_valueZ (v := .int .i64 (K : Int)) (w' := X) (by simp [execOp, li15, d0, loadI q1]) (hKK _ _ r rfl)
    · obtain rfl : li16 = o := Option.some.inj ho
      have d0 : a.eval (.tmp 15) = .int .i64 (n : Int) := haft ⟨12, .data⟩ (by simp [li16]) rfl
      have d1 : a.eval (.tmp 18) = .int .i64 (K : Int) := haft ⟨15, .data⟩ (by simp [li16]) rfl
      exact wp_valueZ (w' := X) (run_mul rfl d0 d1 hnk) (hKK _ _ r rfl)
    · obtain rfl : li17 = o := Option.some.inj ho
      exact wp_valueZ (v := wrV m a1 c1 a2 c2 (.func (.func fs) #[] ls) (.func (.func fl) #[] ll)) (w' := X) (by simp [execOp, li17, e1, loadWr hbX]) (hKK _ _ r rfl)
    · obtain rfl : li18 = o := Option.some.inj ho
      have d0 : a.eval (.tmp 20) = wrV m a1 c1 a2 c2 (.func (.func fs) #[] ls) (.func (.func fl) #[] ll) := haft ⟨17, .data⟩ (by simp [li18]) rfl
      exact wp_valueZ (v := .func (.func 49) #[wrV m a1 c1 a2 c2 (.func (.func fs) #[] ls) (.func (.func fl) #[] ll)] #[]) (w' := X) (by simp [execOp, li18, d0, Instr.makeFunc]) (hKK _ _ r rfl)
    · obtain rfl : li19 = o := Option.some.inj ho
      have d0 : a.eval (.tmp 19) = .int .i64 ((n * K : Nat) : Int) := haft ⟨16, .data⟩ (by simp [li19]) rfl
      have d1 : a.eval (.tmp 21) = .func (.func 49) #[wrV m a1 c1 a2 c2 (.func (.func fs) #[] ls) (.func (.func fl) #[] ll)] #[] := haft ⟨18, .data⟩ (by simp [li19]) rfl
      have hc := each_any (((n * K : Nat) : Int)) 49 (wrV m a1 c1 a2 c2 (.func (.func fs) #[] ls) (.func (.func fl) #[] ll)) X
      refine wp_enterZ (run_call2Z rfl (enters_of Tryd.func47 (by kernel_rfl) rfl) d0 d1) hc ?_
      rintro e X' ⟨rfl, rfl⟩
      have b2 := bal (.cells #[.int .i64 ((n * K : Nat) : Int)] 3)
      have b3 := ballo (X.alloc (.cells #[.int .i64 ((n * K : Nat) : Int)] 3)) (.cells #[.func (.func 49) #[wrV m a1 c1 a2 c2 (.func (.func fs) #[] ls) (.func (.func fl) #[] ll)] #[]] 50)
      refine ⟨_, rfl, hKK _ _ (bstep b2 b3) ⟨_, _, rfl, hNX, Nat.le_succ_of_le hNX, (Bk.new X [_] _).below b3, ?_⟩⟩
      have := Bk.new (X.alloc (.cells #[.int .i64 ((n * K : Nat) : Int)] 3)) [.func (.func 49) #[wrV m a1 c1 a2 c2 (.func (.func fs) #[] ls) (.func (.func fl) #[] ll)] #[]] 50
      rw [World.size_alloc] at this
      exact this
    · obtain rfl : li20 = o := Option.some.inj ho
      refine wp_valueZ (v := .slice (some ⟨X.heap.size, 0, none⟩) 1 1) (w' := X.alloc (.cells (edL.map bsV).toArray 9)) ?_ (hKK _ _ (bal _) ⟨_, rfl, hNX, Bk.new X _ _⟩)
      simp [execOp, li20, Act.eval, run_one]
      rfl
    · obtain rfl : li21 = o := Option.some.inj ho
      obtain ⟨q, dq, hq1, hq2⟩ : LT N bx (wrV m a1 c1 a2 c2 (.func (.func fs) #[] ls) (.func (.func fl) #[] ll)) n K 20 (a.eval (.tmp 23)) X := haft ⟨20, .data⟩ (by simp [li21]) rfl
      have hc := these_any q edL.length X
      refine wp_enterZ (run_call1 rfl (enters_of Tryd.func46 (by kernel_rfl) rfl) dq) hc ?_
      rintro e X' ⟨rfl, rfl⟩
      exact ⟨_, rfl, hKK _ _ (bal _) ⟨_, q, rfl, hNX, hq1, Bk.new X [_] _, hq2.below (bal _)⟩⟩
    · obtain rfl : li22 = o := Option.some.inj ho
      have h1 : LT N bx (wrV m a1 c1 a2 c2 (.func (.func fs) #[] ls) (.func (.func fl) #[] ll)) n K 1 (a.eval (.tmp 4)) X := haft ⟨1, .data⟩ (by simp [li22]) rfl
      have h7 : LT N bx (wrV m a1 c1 a2 c2 (.func (.func fs) #[] ls) (.func (.func fl) #[] ll)) n K 7 (a.eval (.tmp 10)) X := haft ⟨7, .data⟩ (by simp [li22]) rfl
      have h9 : LT N bx (wrV m a1 c1 a2 c2 (.func (.func fs) #[] ls) (.func (.func fl) #[] ll)) n K 9 (a.eval (.tmp 12)) X := haft ⟨9, .data⟩ (by simp [li22]) rfl
      have h19 : LT N bx (wrV m a1 c1 a2 c2 (.func (.func fs) #[] ls) (.func (.func fl) #[] ll)) n K 19 (a.eval (.tmp 22)) X := haft ⟨19, .data⟩ (by simp [li22]) rfl
      have h21 : LT N bx (wrV m a1 c1 a2 c2 (.func (.func fs) #[] ls) (.func (.func fl) #[] ll)) n K 21 (a.eval (.tmp 24)) X := haft ⟨21, .data⟩ (by simp [li22]) rfl
      have h1c := h1
      have h7c := h7
      have h9c := h9
      have h19c := h19
      have h21c := h21
      obtain ⟨b1, -, k1, -⟩ := h1c
      obtain ⟨b7, b7b, k7, -⟩ := h7c
      obtain ⟨b9, -, k9, -⟩ := h9c
      obtain ⟨b19, b19b, k19, -⟩ := h19c
      obtain ⟨b21, -, k21, -⟩ := h21c
      refine wp_valueZ (v := .slice (some ⟨X.heap.size, 0, none⟩) 5 5) (w' := X.alloc (.cells [a.eval (.tmp 4), a.eval (.tmp 10), a.eval (.tmp 12), a.eval (.tmp 22), a.eval (.tmp 24)].toArray 66)) ?_ (hKK _ _ (bal _) ⟨_, _, rfl, hNX, Bk.new X _ _, _, _, _, _, _, rfl, IsT.below h1 (bal _), IsE.below h7 (bal _), IsT.below h9 (bal _), IsE.below h19 (bal _), IsT.below h21 (bal _)⟩)
      simp [execOp, li22, k1, k7, k9, k19, k21, run_five]
    · obtain rfl : li23 = o := Option.some.inj ho
      obtain ⟨q, vs, dq, hq1, hq2, hq3⟩ : LT N bx (wrV m a1 c1 a2 c2 (.func (.func fs) #[] ls) (.func (.func fl) #[] ll)) n K 22 (a.eval (.tmp 25)) X := haft ⟨22, .data⟩ (by simp [li23]) rfl
      have hc := behind_any q 5 X
      refine wp_enterZ (run_call1 rfl (enters_of Tryd.func45 (by kernel_rfl) rfl) dq) hc ?_
      rintro e X' ⟨rfl, rfl⟩
      exact ⟨_, rfl, hKK _ _ (bal _) ⟨_, q, vs, rfl, hNX, hq1, Bk.new X [_] _, hq2.below (bal _), hq3.below (bal _)⟩⟩
    · obtain rfl : li24 = o := Option.some.inj ho
      have h23 : LT N bx (wrV m a1 c1 a2 c2 (.func (.func fs) #[] ls) (.func (.func fl) #[] ll)) n K 23 (a.eval (.tmp 26)) X := haft ⟨23, .data⟩ (by simp [li24]) rfl
      exact wp_valueZ (v := a.eval (.tmp 26)) (w' := X) (by simp [execOp, li24]) (hKK _ _ r h23)
  · intro a X E
    exact fin a X E.bl E.df (E.vs 24 (by decide) trivial)



end Go.Proofs.YtbhdcgebcmgidaaDoor

/-
  What the writer's lines give, one by one.
-/
namespace Go.Proofs.YtbhdcgebcmgidaaDoor
open Go.RowKit

def baL (xs : List (List UInt8)) : List ByteArray := xs.map fun l => ⟨l.toArray⟩
theorem baL_len (xs : List (List UInt8)) : (baL xs).length = xs.length := by simp [baL]
theorem baL_sv (xs : List (List UInt8)) : (baL xs).map sv = xs.map bsV := by
  unfold baL
  rw [List.map_map]
  rfl
theorem baL_get (xs : List (List UInt8)) (i : Nat) (h : i < xs.length) : (baL xs).getD i ⟨#[]⟩ = ⟨(xs.getD i []).toArray⟩ := by
  simp [baL, List.getD_eq_getElem?_getD, List.getElem?_eq_getElem h]

theorem IsT.gv {N B n : Nat} {xs : List (List UInt8)} {v : Value} {W : World} (h : IsT N xs v W) (hB : B < N) (hl : xs.length ≤ 1000) : ∃ lb, v = .func (.func 59) #[] lb ∧ Gv Tryd.prog 5 B n 59 lb (baL xs) W := by
  obtain ⟨b, q, rfl, h1, h2, h3, h4⟩ := h
  exact ⟨_, rfl, values_gv B n b q (baL xs) W (by rw [baL_len]; exact h3) (by rw [baL_sv]; exact h4) (by omega) (by omega) (by rw [baL_len]; exact hl)⟩
theorem IsE.gv {N B n f : Nat} {rv : Value} {xs : List (List UInt8)} {v : Value} {W : World} (h : IsE N xs.length (.func (.func f) #[rv] #[]) v W) (hB : B < N) (hn : n ≤ W.heap.size) (hl : xs.length ≤ 1000000)
    (hen : ∀ args w, (callFunc f args).run Tryd.prog w = .ok (.enter f args) w) (ht : ∀ X, Below n W X → ∀ i : Nat, i < xs.length → Calls Tryd.prog f #[rv, .int .i64 (i : Int)] X fun e X' => e = .returned (bsV (xs.getD i [])) ∧ Below X.heap.size X X') :
    ∃ lb, v = .func (.func 54) #[] lb ∧ Gv Tryd.prog 5 B n 54 lb (baL xs) W := by
  obtain ⟨b, c, rfl, h1, h2, h3, h4⟩ := h
  refine ⟨_, rfl, each_gv B n b c f rv (baL xs) W (by rw [baL_len]; exact h3) h4 (by omega) (by omega) hn (by rw [baL_len]; exact hl) hen ?_⟩
  intro X hX i hi
  rw [baL_len] at hi
  rw [baL_get xs i hi]
  exact ht X hX.bl i hi

/-- All lines. -/
def allL (xs ys : List (List UInt8)) : List (List UInt8) := hdL ++ xs ++ goL ++ ys ++ edL

theorem LT.gv {N bx B n0 : Nat} {wv : Value} {n K : Nat} {v : Value} {W : World} {xs ys : List (List UInt8)} (h : LT N bx wv n K 24 v W) (hB : B < N) (hBW : B < W.heap.size) (hn : n0 ≤ W.heap.size) (hx : xs.length = n) (hy : ys.length = n * K) (hl : n ≤ 1000000) (hl2 : n * K ≤ 1000000)
    (hS : ∀ X, Below n0 W X → ∀ i : Nat, i < xs.length → Calls Tryd.prog 48 #[wv, .int .i64 (i : Int)] X fun e X' => e = .returned (bsV (xs.getD i [])) ∧ Below X.heap.size X X')
    (hY : ∀ X, Below n0 W X → ∀ i : Nat, i < ys.length → Calls Tryd.prog 49 #[wv, .int .i64 (i : Int)] X fun e X' => e = .returned (bsV (ys.getD i [])) ∧ Below X.heap.size X X') :
    ∃ lb, v = .func (.func 52) #[] lb ∧ Gv Tryd.prog 5 B n0 52 lb (baL (allL xs ys)) W := by
  obtain ⟨b, q, vs, rfl, h1, h2, h3, h4, v1, v2, v3, v4, v5, rfl, k1, k2, k3, k4, k5⟩ := h
  rw [← hx] at k2
  rw [← hy] at k4
  obtain ⟨l1, rfl, g1⟩ := k1.gv (n := n0) hB (by decide)
  obtain ⟨l2, rfl, g2⟩ := k2.gv (n := n0) hB hn (by omega) (enters_of Tryd.func48 (by kernel_rfl) rfl) hS
  obtain ⟨l3, rfl, g3⟩ := k3.gv (n := n0) hB (by decide)
  obtain ⟨l4, rfl, g4⟩ := k4.gv (n := n0) hB hn (by omega) (enters_of Tryd.func49 (by kernel_rfl) rfl) hY
  obtain ⟨l5, rfl, g5⟩ := k5.gv (n := n0) hB (by decide)
  have := one_gv B n0 b q [⟨_, l1, baL hdL⟩, ⟨_, l2, baL xs⟩, ⟨_, l3, baL goL⟩, ⟨_, l4, baL ys⟩, ⟨_, l5, baL edL⟩] W h3 h4 (by omega) (by omega) hn hBW (by simp) (by
    intro p hp
    simp only [List.mem_cons, List.not_mem_nil, or_false] at hp
    rcases hp with rfl | rfl | rfl | rfl | rfl
    · exact ⟨g1, enters_of Tryd.func59 (by kernel_rfl) rfl⟩
    · exact ⟨g2, enters_of Tryd.func54 (by kernel_rfl) rfl⟩
    · exact ⟨g3, enters_of Tryd.func59 (by kernel_rfl) rfl⟩
    · exact ⟨g4, enters_of Tryd.func54 (by kernel_rfl) rfl⟩
    · exact ⟨g5, enters_of Tryd.func59 (by kernel_rfl) rfl⟩)
  refine ⟨_, rfl, ?_⟩
  simp only [List.map_cons, List.map_nil] at this
  have e2 : [baL hdL, baL xs, baL goL, baL ys, baL edL].flatten = baL (allL xs ys) := by simp [baL, allL]
  rw [e2] at this
  exact this

set_option maxRecDepth 100000 in
set_option maxHeartbeats 2000000 in
theorem lines_any (W : World) (m : Mc) (a1 : Option Addr) (c1 : Nat) (a2 : Option Addr) (c2 : Nat) (fs : Nat) (ls : Array Value) (fl : Nat) (ll : Array Value) (n K B n0 : Nat) (xs ys : List (List UInt8)) (hn : m.n = (n : Int)) (hk : m.k = (K : Int)) (hB : B < W.heap.size) (hn0 : n0 ≤ W.heap.size) (hx : xs.length = n) (hy : ys.length = n * K) (hl : n ≤ 1000000) (hl2 : n * K ≤ 1000000)
    (hS : ∀ X, Below n0 W X → ∀ i : Nat, i < xs.length → Calls Tryd.prog 48 #[wrV m a1 c1 a2 c2 (.func (.func fs) #[] ls) (.func (.func fl) #[] ll), .int .i64 (i : Int)] X fun e X' => e = .returned (bsV (xs.getD i [])) ∧ Below X.heap.size X X')
    (hY : ∀ X, Below n0 W X → ∀ i : Nat, i < ys.length → Calls Tryd.prog 49 #[wrV m a1 c1 a2 c2 (.func (.func fs) #[] ls) (.func (.func fl) #[] ll), .int .i64 (i : Int)] X fun e X' => e = .returned (bsV (ys.getD i [])) ∧ Below X.heap.size X X') :
    Calls Tryd.prog 32 #[wrV m a1 c1 a2 c2 (.func (.func fs) #[] ls) (.func (.func fl) #[] ll)] W fun e W' => ∃ lb, e = .returned (.func (.func 52) #[] lb) ∧ Below W.heap.size W W' ∧ Gv Tryd.prog 5 B n0 52 lb (baL (allL xs ys)) W' := by
  have ba := ballo W (.cells (wrC m a1 c1 a2 c2 (.func (.func fs) #[] ls) (.func (.func fl) #[] ll)).toArray 52)
  have hb := Bk.new W (wrC m a1 c1 a2 c2 (.func (.func fs) #[] ls) (.func (.func fl) #[] ll)) 52
  have HS := hide hS
  have HY := hide hY
  have HB := hide hb
  have HA := hide ba
  have HE := hide (And.intro (And.intro hn hk) (And.intro hx hy))
  clear hS hY hb ba hn hk hx hy
  unfold wrV
  go_enter Tryd.func32, Tryd.ntmps32
  go_wp2
  rename_i Q' K' hK'
  refine li_region _ _ W.heap.size W.heap.size n K m a1 c1 a2 c2 fs ls fl ll rfl rfl (unhide HB) (unhide HE).1.1 (unhide HE).1.2 hl2 (by simp) ?_
  intro a X hb hd hv
  have hWX := bstep (unhide HA) hb
  obtain ⟨lb, hlb, hgv⟩ := hv.gv (B := B) (n0 := n0) hB (Nat.lt_of_lt_of_le hB hWX.size) (Nat.le_trans hn0 hWX.size) (unhide HE).2.1 (unhide HE).2.2 hl hl2 (fun Y hY i hi => unhide HS Y ((hWX.mono hn0).trans hY) i hi) (fun Y hY i hi => unhide HY Y ((hWX.mono hn0).trans hY) i hi)
  exact hK' _ _ (ret_slot rfl hd hlb ⟨lb, rfl, hWX, hgv⟩)

end Go.Proofs.YtbhdcgebcmgidaaDoor

/-
  The writer's write: the lines, a line break behind each.
-/
namespace Go.Proofs.YtbhdcgebcmgidaaDoor
open Go.RowKit Go.Shelf

attribute [local go_sem] Oper.semAt_some

section
variable {F : Fence} {n : Nat} {w : World} {ops : Array Oper} {rest : List Oper} {o : Oper} {a : Act} {Q : Exit → Act → World → Prop}
theorem wplIn_pushS (hgd : o.guard = none) (x y : Operand) (ho : o.op = .call { callee := .builtin .append, args := #[x, y], argTypes := #[29, 9] })
    (B : Nat) (v : Value) (l : List UInt8) (hs : a.eval x = v) (hown : OwnL .u8 5 w B v (zs l)) (s : ByteArray) (hx : a.eval y = .string s)
    (hbytes : l.length + s.size ≤ 140737488355328) (hbase : B ≤ w.heap.size)
    (h : ∀ v' w', OwnL .u8 5 w' B v' (zs (l ++ s.data.toList)) → Below B w w' → w.grownBy w' v.ownBlock → wpListIn F n Tryd.prog ops Q rest (a.put o.dst v') w') :
    wpListIn F n Tryd.prog ops Q (o :: rest) a w := by
  refine wpListIn_plain hgd fun K hK => ?_
  obtain ⟨v', w', hrun, r1, r2, r3, -⟩ := run_pushS (w := w) o.type B v l hown s hbytes hbase
  unfold Oper.wpIn
  refine ⟨?_, ?_⟩
  · simp [Oper.about, ho, resolve, Target.leads, Sem.run_pure]
  · rw [Oper.semAt_plain F _ _ (by rw [ho]; intro c hc'; cases hc')]
    simp [execOp, ho, resolve, invoke, builtin, hs, hx, hrun, Result.andThen]
    exact hK _ _ (h v' w' r1 r2 r3)
theorem wplIn_pushB (hgd : o.guard = none) (x y : Operand) (ho : o.op = .call { callee := .builtin .append, args := #[x, y], argTypes := #[29, 29] })
    (B : Nat) (v : Value) (l : List UInt8) (hs : a.eval x = v) (hown : OwnL .u8 5 w B v (zs l)) (ad : Addr) (c : Nat) (m : List UInt8) (hx : a.eval y = .slice (some ad) m.length c) (hrd : RdL .u8 w (some ad) (zs m))
    (hbytes : l.length + m.length ≤ 140737488355328) (hbase : B ≤ w.heap.size)
    (h : ∀ v' w', OwnL .u8 5 w' B v' (zs (l ++ m)) → Below B w w' → w.grownBy w' v.ownBlock → wpListIn F n Tryd.prog ops Q rest (a.put o.dst v') w') :
    wpListIn F n Tryd.prog ops Q (o :: rest) a w := by
  refine wpListIn_plain hgd fun K hK => ?_
  obtain ⟨v', w', hrun, r1, r2, r3, -⟩ := run_pushA (w := w) e8 o.type B v (zs l) hown ad c (zs m) hrd (by rw [zs_len, zs_len]; omega) hbase
  rw [← zs_app] at r1
  rw [zs_len] at hrun
  unfold Oper.wpIn
  refine ⟨?_, ?_⟩
  · simp [Oper.about, ho, resolve, Target.leads, Sem.run_pure]
  · rw [Oper.semAt_plain F _ _ (by rw [ho]; intro c hc'; cases hc')]
    simp [execOp, ho, resolve, invoke, builtin, hs, hx, hrun, Result.andThen]
    exact hK _ _ (h v' w' r1 r2 r3)
end

/-- The row of one's own is a row of bytes. -/
theorem own_u8 {w : World} {B k : Nat} {v : Value} {l : List UInt8} (h : OwnL .u8 5 w B v (zs l)) (e : v.ownBlock = some k) : ∃ cs f, w.heap[k]? = some (.cells cs 5 f) := by
  obtain ⟨h1, h2⟩ := h
  rcases h2 with ⟨rfl, _⟩ | ⟨g, cap, cur, rfl, hg, hcell, rest⟩
  · cases e
  · obtain rfl : g = k := Option.some.inj e
    exact ⟨_, _, hcell⟩
/-- What an append leaves. -/
theorem Kq.push {B n : Nat} {W W' : World} {v : Value} {l : List UInt8} (h : OwnL .u8 5 W n v (zs l)) (hb : Below n W W') (hg : W.grownBy W' v.ownBlock) : Kq 5 B n W W' :=
  ⟨hb, fun k hk _ hu => hg.block k hk fun e => by
    obtain ⟨cs, f, hc⟩ := own_u8 h e.symm
    exact hu cs f hc⟩
theorem Kq.setB {B n : Nat} {W : World} (hn : n ≤ B) (v : Value) : Kq 5 B n W (W.setCell ⟨B, 0, none⟩ v) :=
  ⟨(Below.refl n W).setCell (p := ⟨B, 0, none⟩) hn v, fun k _ hB _ => Below.heap_setCell _ _ _ k hB⟩
theorem Kq.alloc {B n : Nat} {W : World} (hn : n ≤ W.heap.size) (o : Obj) : Kq 5 B n W (W.alloc o) := .of_below (ballo W o) hn
theorem box_no {W : World} {B n : Nat} {u v : Value} {l : List UInt8} (h : Boxed W B 29 u) (ho : OwnL .u8 5 W n v (zs l)) : some B ≠ v.ownBlock := h.not_row (by decide) ho
/-- The slice in the box, as a state of the loop. -/
structure Wb (B n : Nat) (l : List UInt8) (v : Value) (W : World) : Prop where
  bx : Boxed W B 29 v
  ow : OwnL .u8 5 W n v (zs l)
  sz : n ≤ W.heap.size
theorem Wb.sq {B n N : Nat} {l : List UInt8} {v : Value} {W W' : World} (h : Wb B n l v W) (s : Sq N W W') : Wb B n l v W' := by
  refine ⟨s.keep h.bx (.inr rfl), ?_, Nat.le_trans h.sz s.size⟩
  have ho := h.ow
  unfold OwnL at ho ⊢
  refine ownsRow_keep ho fun b hb => ?_
  obtain ⟨cs, f, hc⟩ := own_u8 h.ow hb
  rw [s.keep hc (.inr rfl), hc]
/-- An append and the store behind it. -/
theorem Wb.step {B n : Nat} {l l' : List UInt8} {v v' : Value} {W W' : World} (h : Wb B n l v W) (hB : n ≤ B) (hown : OwnL .u8 5 W' n v' (zs l')) (hb : Below n W W') (hg : W.grownBy W' v.ownBlock) :
    Boxed W' B 29 v ∧ Wb B n l' v' (W'.setCell ⟨B, 0, none⟩ v') ∧ Kq 5 B n W (W'.setCell ⟨B, 0, none⟩ v') := by
  have b1 : Boxed W' B 29 v := h.bx.kept hg (box_no h.bx h.ow)
  refine ⟨b1, ⟨b1.set v', ?_, ?_⟩, (Kq.push h.ow hb hg).trans (Kq.setB hB v')⟩
  · exact World.ownsRow.kept hown (grownBy_setCell' W' B v') (.inr (box_no b1 hown).symm)
  · have := (Kq.setB (W := W') hB v').bl.size
    have := h.sz
    have := hb.size
    omega
theorem Wb.alloc {B n : Nat} {l : List UInt8} {v : Value} {W : World} (h : Wb B n l v W) (o : Obj) : Wb B n l v (W.alloc o) := h.sq (N := 0) (Sq.of_below (ballo W o))

/-- The text of the first lines. -/
def txL (xs : List (List UInt8)) : List UInt8 := xs.flatMap fun l => l ++ [10]
theorem txL_succ {xs : List (List UInt8)} {i : Nat} (h : i < xs.length) : txL (xs.take (i + 1)) = txL (xs.take i) ++ xs.getD i [] ++ [10] := by
  have e : xs.getD i [] = xs[i] := by simp [List.getD_eq_getElem?_getD, List.getElem?_eq_getElem h]
  unfold txL
  rw [e, List.take_add_one, List.getElem?_eq_getElem h]
  simp only [Option.toList_some, List.flatMap_append, List.flatMap_cons, List.flatMap_nil, List.append_nil, List.append_assoc]
theorem txL_le {xs : List (List UInt8)} (h : ∀ l ∈ xs, l.length ≤ 10000) : (txL xs).length ≤ 10001 * xs.length := by
  induction xs with
  | nil => simp [txL]
  | cons x xs ih =>
    have h1 := h x (List.mem_cons_self ..)
    have h2 := ih fun l hl => h l (List.mem_cons_of_mem _ hl)
    have e : txL (x :: xs) = x ++ [10] ++ txL xs := by simp [txL]
    rw [e]
    simp only [List.length_append, List.length_cons, List.length_nil]
    omega

set_option maxRecDepth 100000 in
set_option maxHeartbeats 4000000 in
theorem write_any (W0 : World) (m : Mc) (a1 : Option Addr) (c1 : Nat) (a2 : Option Addr) (c2 : Nat) (fs : Nat) (ls : Array Value) (fl : Nat) (ll : Array Value) (n K : Nat) (xs ys : List (List UInt8)) (hn : m.n = (n : Int)) (hk : m.k = (K : Int)) (hx : xs.length = n) (hy : ys.length = n * K) (hl : n ≤ 1000000) (hl2 : n * K ≤ 1000000) (hw : ∀ l ∈ allL xs ys, l.length ≤ 10000)
    (hS : ∀ X, Below W0.heap.size W0 X → ∀ i : Nat, i < xs.length → Calls Tryd.prog 48 #[wrV m a1 c1 a2 c2 (.func (.func fs) #[] ls) (.func (.func fl) #[] ll), .int .i64 (i : Int)] X fun e X' => e = .returned (bsV (xs.getD i [])) ∧ Below X.heap.size X X')
    (hY : ∀ X, Below W0.heap.size W0 X → ∀ i : Nat, i < ys.length → Calls Tryd.prog 49 #[wrV m a1 c1 a2 c2 (.func (.func fs) #[] ls) (.func (.func fl) #[] ll), .int .i64 (i : Int)] X fun e X' => e = .returned (bsV (ys.getD i [])) ∧ Below X.heap.size X X') :
    Calls Tryd.prog 19 #[wrV m a1 c1 a2 c2 (.func (.func fs) #[] ls) (.func (.func fl) #[] ll)] W0 fun e W' => ∃ v, e = .returned v ∧ OwnL .u8 5 W' W0.heap.size v (zs (txL (allL xs ys))) ∧ Below W0.heap.size W0 W' := by
  have b1 := ballo W0 (.cells (wrC m a1 c1 a2 c2 (.func (.func fs) #[] ls) (.func (.func fl) #[] ll)).toArray 52)
  have hbw := Bk.new W0 (wrC m a1 c1 a2 c2 (.func (.func fs) #[] ls) (.func (.func fl) #[] ll)) 52
  have b2 := ballo (W0.alloc (.cells (wrC m a1 c1 a2 c2 (.func (.func fs) #[] ls) (.func (.func fl) #[] ll)).toArray 52)) (.cells #[.slice none 0 0] 29)
  have hx0 := Boxed.new (W0.alloc (.cells (wrC m a1 c1 a2 c2 (.func (.func fs) #[] ls) (.func (.func fl) #[] ll)).toArray 52)) 29 (.slice none 0 0)
  have hlw := (hbw.below b2)
  have hli := lines_any ((W0.alloc (.cells (wrC m a1 c1 a2 c2 (.func (.func fs) #[] ls) (.func (.func fl) #[] ll)).toArray 52)).alloc (.cells #[.slice none 0 0] 29)) m a1 c1 a2 c2 fs ls fl ll n K (W0.heap.size + 1) W0.heap.size xs ys hn hk (by simp) (by simp; omega) hx hy hl hl2
    (fun X hX i hi => hS X ((bstep b1 b2).trans hX) i hi) (fun X hX i hi => hY X ((bstep b1 b2).trans hX) i hi)
  rw [World.size_alloc] at hx0
  have hb12 := bstep b1 b2
  have p0 := hlw.cell 0
  have p1 := hlw.cell 1
  have p2 := hlw.cell 2
  have p3 := hlw.cell 3
  have p4 := hlw.cell 4
  have p5 := hlw.cell 5
  have p6 := hlw.cell 6
  have p7 := hlw.cell 7
  have hln : (allL xs ys).length = n + n * K + 5 := by simp [allL, hdL, goL, edL, hx, hy]; omega
  have HW := hide (fun i => txL_le (xs := (allL xs ys).take i) (fun l hl => hw l (List.mem_of_mem_take hl)))
  have HWL := hide hw
  clear hS hY hbw b1 b2 hw hn hk hx hy hlw
  unfold wrV at hli ⊢
  unfold wrC at *
  simp only [List.getElem?_cons_succ, List.getElem?_cons_zero] at p0 p1 p2 p3 p4 p5 p6 p7
  generalize hal : allL xs ys = AL at *
  clear hal
  refine (callsIn_wide (n := 0)).1 ?_
  refine callsIn_of_wp_marks Tryd.func19 rfl trivial ?_ rfl
  simp only [Tryd.ntmps19, List.size_toArray, List.length_cons, List.length_nil, Nat.reduceAdd, Nat.reduceSub, Array.replicate_succ, Array.replicate_zero, List.push_toArray, List.append_toArray, List.nil_append, List.cons_append]
  gi_wp2_with fail
  refine ⟨trivial, rfl, ?_⟩
  refine (callsIn_wide.2 hli).mono ?_
  rintro e W2 ⟨lb, rfl, hb2, hgv⟩
  have hx2 : Boxed W2 (W0.heap.size + 1) 29 (.slice none 0 0) := (hb2.block _ hx0.lt).trans hx0
  have hB2 := bstep hb12 hb2
  have hz2 := hb2.size
  simp only [World.size_alloc] at hz2
  clear p0 p1 p2 p3 p4 p5 p6 p7 hli hx0
  have HG := hide hgv
  clear hgv
  gi_wp2
  refine rf_law (gf := 52) (lb := lb) rfl (enters_of Tryd.func52 (by kernel_rfl) rfl) (unhide HG) (Kq.refl _ _ _ _) hB2.size (by omega) rfl
    (fun i W => (∃ v, Wb (W0.heap.size + 1) W0.heap.size (txL (AL.take i)) v W) ∧ Below W0.heap.size W0 W) ?ab ⟨⟨.slice none 0 0, hx2, OwnL.nil _ _ _ _, by omega⟩, hB2⟩
    (fun v => { tmps := #[.agg #[.int .i64 m.kind, .int .i64 m.k, .int .i64 m.o, .int .i64 m.n, .slice a1 m.nx.length c1, .slice a2 m.out.length c2, .func (.func fs) #[] ls, .func (.func fl) #[] ll], .pointer (some ⟨W0.heap.size, 0, none⟩), .slice none 0 0, .pointer (some ⟨W0.heap.size + 1, 0, none⟩), v, .agg #[.int .i64 m.kind, .int .i64 m.k, .int .i64 m.o, .int .i64 m.n, .slice a1 m.nx.length c1, .slice a2 m.out.length c2, .func (.func fs) #[] ls, .func (.func fl) #[] ll], .func (.func 52) #[] lb, v, undef, undef, undef, undef, undef, undef, undef], defers := [] }) ?assign ?body ?done
  case ab =>
    rintro i X Y ⟨⟨v, hv⟩, hb⟩ hs
    refine ⟨⟨v, hv.sq hs⟩, ⟨hs.os.trans hb.os, hs.tape.trans hb.tape, hs.output.trans hb.output, Nat.le_trans hb.size hs.size, fun k hk => ?_⟩⟩
    rw [hs.block k (Nat.lt_of_lt_of_le hk hb.size) (.inl (by omega))]
    exact hb.block k hk
  case assign =>
    intro m' l v X K hK
    gi_wp2
    exact hK
  case body =>
    rintro m' l i X hi ⟨⟨v, hv⟩, hb⟩
    rw [baL_len] at hi
    rw [baL_get AL i hi]
    have HT := hide (txL_succ hi)
    have h1 := unhide HW i
    have h2 : (AL.getD i []).length ≤ 10000 := unhide HWL _ (by rw [List.getD_eq_getElem?_getD, List.getElem?_eq_getElem hi]; exact List.getElem_mem hi)
    have h3 : (AL.take i).length ≤ AL.length := by rw [List.length_take]; omega
    have hc := hv.bx.cell
    obtain ⟨ad, c, rfl, -, -, -, -, -⟩ := hv.ow.shape
    generalize AL.getD i [] = x at *
    generalize txL (AL.take i) = T at *
    have hT : T.length + x.length ≤ 1000000000000 := by omega
    have hsx : (⟨x.toArray⟩ : ByteArray).size = x.length := by simp [ByteArray.size]
    have hsd : (⟨x.toArray⟩ : ByteArray).data.toList = x := by simp
    have hsv := hv.sz
    have HV := hide hv
    have HB := hide hb
    clear hv hb HWL HW h1 h2 h3 HG
    gi_wp2_with (first
      | (gi_at_builtin
         refine wplIn_pushS rfl (.tmp 8) (.tmp 9) rfl W0.heap.size _ T rfl (unhide HV).ow ⟨x.toArray⟩ rfl (by rw [hsx]; omega) hsv ?_
         intro v1 X1 hown1 hb1 hg1
         rw [hsd] at hown1
         obtain ⟨hbx1, hv1, hk1⟩ := (unhide HV).step (by omega) hown1 hb1 hg1
         have hc1 := hbx1.cell
         have hf1 := hbx1.frozen
         obtain ⟨ad1, c1', rfl, -, -, -, -, -⟩ := hown1.shape
         have hc2 := hv1.bx.cell
         have hf2 := hv1.bx.frozen
         have hs1 := hv1.sz
         have HV1 := hide hv1
         have HK1 := hide hk1
         clear hown1 hb1 hg1 hbx1 hv1 hk1)
      | (gi_at_builtin
         refine wplIn_pushB rfl (.tmp 11) (.tmp 12) rfl W0.heap.size _ (T ++ x) rfl ((unhide HV1).alloc _).ow _ 1 [10] rfl ?_ ?_ ?_ ?_
         · show RdL .u8 _ _ [10]
           have := RdL.one (q := .u8) (t := 5) (X1.setCell ⟨W0.heap.size + 1, 0, none⟩ (.slice ad1 (zs (T ++ x)).length c1')) 10
           simpa using this
         · simp only [List.length_append, List.length_cons, List.length_nil]; omega
         · rw [World.size_alloc]; omega
         intro v2 X2 hown2 hb2' hg2
         obtain ⟨hbx2, hv2, hk2⟩ := ((unhide HV1).alloc _).step (by omega) hown2 hb2' hg2
         have hc3 := hbx2.cell
         have hf3 := hbx2.frozen
         obtain ⟨ad2, c2', rfl, -, -, -, -, -⟩ := hown2.shape
         have HV2 := hide hv2
         have HK2 := hide hk2
         clear hown2 hb2' hg2 hbx2 hv2 hk2))
    have hv2 := unhide HV2
    have hkq := (unhide HK1).trans ((Kq.alloc hs1 _).trans (unhide HK2))
    rw [List.append_assoc] at hv2 hkq
    refine ⟨⟨⟨.slice ad2 (zs (T ++ (x ++ [10]))).length c2', ?_⟩, (unhide HB).trans hkq.bl⟩, hkq⟩
    rw [unhide HT, List.append_assoc]
    exact hv2
  case done =>
    rintro D X hD ⟨⟨v, hv⟩, hb⟩ hK
    rw [baL_len, List.take_length] at hv
    have hc := hv.bx.cell
    obtain ⟨ad, c, rfl, -, -, -, -, -⟩ := hv.ow.shape
    have HV := hide hv
    have HB := hide hb
    clear hv hb HW HWL HG
    gi_wp2
    refine ⟨by simp, .inl ⟨_, _, rfl, run_takeDeferred hK, ?_⟩⟩
    refine ⟨_, results_tmp rfl _ _ _, _, rfl, ?_, ?_⟩
    · exact ((unhide HV).sq (Sq.putObj (N := 0) _ (Nat.zero_le _) hK rfl)).ow
    · exact (unhide HB).grown (grownBy_putObj' X D (.deferred none)) (unhide HB).size fun k e => by cases e; omega

end Go.Proofs.YtbhdcgebcmgidaaDoor
